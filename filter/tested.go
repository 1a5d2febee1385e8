package filter

import (
	"iter"
	"slices"

	"coffret/api"
	"coffret/path"
)

// tested is what is tested: the values to which a path leads, or just an element.
type tested []api.Value

// reach is path.Reach, which copies what it answers; here nothing is copied where documents alone stand on the way: filters are asked of document after document.
func reach(v api.Value, parts []string) tested {
	for v.Kind == api.KindDoc && len(parts) > 0 {
		at := place(v, parts[0])
		if at < 0 {
			return tested{api.Value{}}
		}
		v, parts = v.Doc[at].Value, parts[1:]
	}
	if len(parts) == 0 {
		return tested{v}
	}
	return path.Reach(v, parts)
}

// place is where a document's first field of that name stands; -1, if there is none.
func place(v api.Value, name string) int {
	return slices.IndexFunc(v.Doc, func(f api.Field) bool { return f.Name == name })
}

// met goes through what is tested and the elements of lists among it, each list ahead of its elements.
func (x tested) met() iter.Seq[api.Value] {
	return func(yield func(api.Value) bool) {
		for _, v := range x {
			if !yield(v) {
				return
			}
			for y := range (tested{v}).elements() {
				if !yield(y) {
					return
				}
			}
		}
	}
}

// elements goes through the elements of lists among what is tested.
func (x tested) elements() iter.Seq[api.Value] {
	return func(yield func(api.Value) bool) {
		for _, v := range x {
			if v.Kind != api.KindList {
				continue
			}
			for _, y := range v.List {
				if !yield(y) {
					return
				}
			}
		}
	}
}

// missing tells whether a value stands for none.
func missing(v api.Value) bool {
	return v.Kind == 0 && v.Int == 0 && v.Text == "" && len(v.List) == 0 && len(v.Doc) == 0
}

// orNull is v, but null if it is missing.
func orNull(v api.Value) api.Value {
	if missing(v) {
		return api.Value{Kind: api.KindNull}
	}
	return v
}
