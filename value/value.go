// Package value is layer 1: values, and their order: see shared/doc/01-value.md.
package value

import (
	"slices"

	"coffret/api"
)

// Get is a document's field.
func Get(v api.Value, name string) (api.Value, bool) {
	at := place(v, name)
	if at < 0 {
		return api.Value{}, false
	}
	return Clone(v.Doc[at].Value), true
}

// With is a document with that field.
func With(v api.Value, name string, x api.Value) api.Value {
	if v.Kind != api.KindDoc {
		return api.Value{}
	}
	out := Clone(v)
	if at := place(out, name); at >= 0 {
		out.Doc[at].Value = Clone(x)
	} else {
		out.Doc = append(out.Doc, api.Field{Name: name, Value: Clone(x)})
	}
	return out
}

// Without is a document without it.
func Without(v api.Value, name string) api.Value {
	if v.Kind != api.KindDoc {
		return api.Value{}
	}
	out := Clone(v)
	out.Doc = slices.DeleteFunc(out.Doc, func(f api.Field) bool { return f.Name == name })
	return out
}

// Clone is the same in other memory.
func Clone(v api.Value) api.Value {
	v.List = cloneList(v.List)
	v.Doc = cloneFields(v.Doc)
	return v
}

// place is where a document's first field of that name stands; -1, if there is none.
func place(v api.Value, name string) int {
	if v.Kind != api.KindDoc {
		return -1
	}
	return slices.IndexFunc(v.Doc, func(f api.Field) bool { return f.Name == name })
}

func cloneList(l []api.Value) []api.Value {
	if len(l) == 0 {
		return nil // the empty list's spare room is not to be shared
	}
	out := make([]api.Value, len(l))
	for i, x := range l {
		out[i] = Clone(x)
	}
	return out
}

func cloneFields(l []api.Field) []api.Field {
	if len(l) == 0 {
		return nil // the empty list's spare room is not to be shared
	}
	out := make([]api.Field, len(l))
	for i, f := range l {
		out[i] = api.Field{Name: f.Name, Value: Clone(f.Value)}
	}
	return out
}
