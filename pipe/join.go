package pipe

import (
	"slices"

	"coffret/api"
	"coffret/path"
	"coffret/shown"
	"coffret/value"
)

// union is `$union`: the name of the others.
type union string

func (name union) run(docs []api.Value, from source) ([]api.Value, api.Errno) {
	out := made{}
	for _, d := range docs {
		if e := out.take(d); e != api.OK {
			return nil, e
		}
	}
	others, e := from(string(name))
	if e != api.OK {
		return nil, e
	}
	for _, d := range others {
		if e := out.take(d); e != api.OK {
			return nil, e
		}
	}
	return out.docs, api.OK
}

// lookup is `$lookup`.
type lookup struct {
	from               string
	local, foreign, as []string
}

func (l lookup) run(docs []api.Value, from source) ([]api.Value, api.Errno) {
	if len(docs) == 0 {
		return nil, api.OK
	}
	others, e := from(l.from)
	if e != api.OK {
		return nil, e
	}
	places := placesOf(others, l.foreign)
	return each(func(d api.Value, to *made) api.Errno {
		v := api.Value{Kind: api.KindList}
		for _, at := range places.shownBy(d, l.local) {
			v.List = append(v.List, others[at])
		}
		v, e := path.Set(d, l.as, v)
		if e != api.OK {
			return e
		}
		return to.take(v)
	}).run(docs, from)
}

// places tell of a value the places of the documents that show it, from the front.
type places struct {
	table[api.Value, []int]
}

func placesOf(docs []api.Value, parts []string) *places {
	t := &places{table[api.Value, []int]{order: value.Compare}}
	for i, d := range docs {
		for v := range shown.In(d, parts) {
			at, _ := t.at(v)
			if n := len(*at); n == 0 || (*at)[n-1] != i {
				*at = append(*at, i)
			}
		}
	}
	return t
}

// shownBy are the places of all values that a path shows in a document, each place once, from the front.
func (t *places) shownBy(d api.Value, parts []string) []int {
	var out []int
	asked := table[api.Value, struct{}]{order: value.Compare} // a list may have one value again and again
	for v := range shown.In(d, parts) {
		if _, twice := asked.at(v); twice {
			continue
		}
		if at := t.find(v); at != nil {
			out = append(out, *at...)
		}
	}
	slices.Sort(out)
	return slices.Compact(out)
}
