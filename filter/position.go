package filter

import (
	"strconv"
	"strings"

	"coffret/api"
	"coffret/path"
)

// Position is the first element of a list that fulfils the conditions on it; -1: there is none.
func (f *Filter) Position(doc api.Value, list string) int {
	parts, e := path.Split(list)
	if e != api.OK {
		return -1
	}
	l, _ := path.At(doc, parts)
	on := f.all.on(list)
	if l.Kind != api.KindList || len(on) == 0 {
		return -1
	}
	whole, element := withOne(doc, parts)
	for i, x := range l.List {
		*element = x
		if is, _ := on.mean(*whole); is {
			return i
		}
	}
	return -1
}

// on are the fields on a list, or on what is in it.
func (l conditions) on(list string) conditions {
	var out conditions
	for x := range l.fields() {
		if x.path == list || strings.HasPrefix(x.path, list+".") {
			out = append(out, x)
		}
	}
	return out
}

// withOne is the document in which the list at the parts has one element, and where that one stands. The document is made once for all elements: to make it for each would take as long as the document is, each time.
func withOne(doc api.Value, parts []string) (*api.Value, *api.Value) {
	whole, _ := path.Set(doc, parts, api.Value{Kind: api.KindList, List: make([]api.Value, 1)})
	at := &whole
	for _, part := range parts {
		at = below(at, part)
	}
	return &whole, &at.List[0]
}

// below is what stands in a document or a list at a part to which something stands.
func below(v *api.Value, part string) *api.Value {
	if v.Kind == api.KindDoc {
		return &v.Doc[place(*v, part)].Value
	}
	at, _ := strconv.Atoi(part)
	return &v.List[at]
}
