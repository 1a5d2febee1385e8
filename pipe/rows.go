package pipe

import (
	"slices"

	"coffret/api"
	"coffret/shown"
	"coffret/value"
)

// limit is `$limit`: how many first ones.
type limit int

func (n limit) run(docs []api.Value, _ source) ([]api.Value, api.Errno) {
	return docs[:min(int(n), len(docs))], api.OK
}

// skip is `$skip`: all but how many first ones.
type skip int

func (n skip) run(docs []api.Value, _ source) ([]api.Value, api.Errno) {
	return docs[min(int(n), len(docs)):], api.OK
}

// count is `$count`: the name of the number.
type count string

func (name count) run(docs []api.Value, _ source) ([]api.Value, api.Errno) {
	v := bare()
	v.Doc = append(v.Doc, api.Field{Name: string(name), Value: number(len(docs))})
	out := made{}
	if e := out.take(v); e != api.OK {
		return nil, e
	}
	return out.docs, api.OK
}

func number(n int) api.Value {
	return api.Value{Kind: api.KindInt, Int: n}
}

// sorting is a path, and the side on which the outermost of what it shows stands first: -1 ahead of all, 1 behind all.
type sorting struct {
	parts []string
	side  int
}

// sort is `$sort`.
type sort []sorting

// keyed is a document with what it is sorted by.
type keyed struct {
	doc  api.Value
	keys []api.Value
}

func (l sort) run(docs []api.Value, _ source) ([]api.Value, api.Errno) {
	var rows []keyed
	for _, d := range docs {
		rows = append(rows, l.keyed(d))
	}
	slices.SortStableFunc(rows, l.order)
	var out []api.Value
	for _, r := range rows {
		out = append(out, r.doc)
	}
	return out, api.OK
}

func (l sort) keyed(d api.Value) keyed {
	row := keyed{doc: d}
	for _, s := range l {
		row.keys = append(row.keys, outermost(shown.In(d, s.parts), s.side))
	}
	return row
}

func (l sort) order(a, b keyed) int {
	for i, s := range l {
		if c := value.Compare(a.keys[i], b.keys[i]); c != 0 {
			return -s.side * c
		}
	}
	return 0
}
