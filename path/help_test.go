package path_test

import (
	"slices"
	"strings"
	"testing"

	"coffret/api"
)

func num(n int) api.Value { return api.Value{Kind: api.KindInt, Int: n} }

func txt(s string) api.Value { return api.Value{Kind: api.KindText, Text: s} }

func null() api.Value { return api.Value{Kind: api.KindNull} }

func none() api.Value { return api.Value{} }

func list(l ...api.Value) api.Value { return api.Value{Kind: api.KindList, List: l} }

func doc(l ...api.Field) api.Value { return api.Value{Kind: api.KindDoc, Doc: l} }

func of(name string, v api.Value) api.Field { return api.Field{Name: name, Value: v} }

// row are values that are met.
func row(l ...api.Value) []api.Value { return l }

// parts are those of a path in words, with a space between each two.
func parts(s string) []string { return strings.Fields(s) }

// example is the chapter's d.
func example() api.Value {
	return doc(of("a", doc(of("b", num(1)))), of("l", list(doc(of("b", num(2))), doc(of("b", num(3))), doc(of("c", num(4))), num(5))))
}

// many is a list of so many of v.
func many(v api.Value, n int) api.Value {
	return list(slices.Repeat(row(v), n)...)
}

// nest is v within so many lists, or documents.
func nest(v api.Value, many int, docs bool) api.Value {
	for range many {
		if docs {
			v = doc(of("a", v))
		} else {
			v = list(v)
		}
	}
	return v
}

// flat are one of each kind of values in which no part leads anywhere, though some hold fields and elements that their kind does not use.
func flat() []api.Value {
	l := row(none(), num(5), txt("a"), api.Value{Kind: api.KindBytes, Text: "a"}, api.Value{Kind: api.KindId, Text: "abcdefghijkl"})
	for kind := -1; kind < 14; kind++ {
		if kind != api.KindDoc && kind != api.KindList {
			l = append(l, api.Value{Kind: kind, List: row(num(1)), Doc: doc(of("a", num(1)), of("0", num(1))).Doc})
		}
	}
	return l
}

// noPlaces are texts near to numbers that are no places.
func noPlaces() []string {
	return []string{"", "00", "01", "007", "-1", "-0", "+1", " 0", "0 ", "1.0", "0x0", "1e0", "1_0", "/", ":", "0:", "/0", "a", "0a", "a0", "1000000000", "0000000000", "10000000000000000000", "18446744073709551616", "\uff10", "\u0660", "\xff"}
}

// same tells whether two values are the same.
func same(a, b api.Value) bool {
	if a.Kind != b.Kind || a.Int != b.Int || a.Text != b.Text || len(a.Doc) != len(b.Doc) {
		return false
	}
	for i := range a.Doc {
		if a.Doc[i].Name != b.Doc[i].Name || !same(a.Doc[i].Value, b.Doc[i].Value) {
			return false
		}
	}
	return sameRows(a.List, b.List)
}

func sameRows(a, b []api.Value) bool {
	return slices.EqualFunc(a, b, same)
}

func wantSame(t *testing.T, what string, got, want api.Value) {
	t.Helper()
	if !same(got, want) {
		t.Errorf("%s: got %v, want %v", what, got, want)
	}
}

func wantRows(t *testing.T, what string, got, want []api.Value) {
	t.Helper()
	if !sameRows(got, want) {
		t.Errorf("%s: got %d: %v, want %d: %v", what, len(got), got[:min(len(got), 20)], len(want), want[:min(len(want), 20)])
	}
}

// dice are numbers that look like any, the same at each run.
type dice uint64

func (d *dice) below(n int) int {
	*d = *d*6364136223846793005 + 1442695040888963407
	return int(*d>>33) % n
}

// part is one of a few texts, so that they often lead somewhere.
func (d *dice) part() string {
	l := []string{"a", "b", "0", "1", "2", "a", "b", "0", "1", "00", "", "$", "102"}
	return l[d.below(len(l))]
}

// parts are some of them; seldom more than may be.
func (d *dice) parts() []string {
	var l []string
	for range d.below(5) {
		l = append(l, d.part())
	}
	if d.below(100) == 0 {
		l = append(l, slices.Repeat([]string{"a"}, 9)...)
	}
	return l
}

// any is some value, in which others stand at most so deep; a document may have a name twice.
func (d *dice) any(deep int) api.Value {
	kind := d.below(12)
	switch {
	case deep == 0 || kind < 2:
		return row(num(d.below(100)), txt("t"), null(), none(), api.Value{Kind: api.KindMax})[d.below(5)]
	case kind < 6:
		v := list()
		for range d.below(5) {
			v.List = append(v.List, d.any(deep-1))
		}
		return v
	}
	v := doc()
	for range d.below(4) {
		v.Doc = append(v.Doc, of(d.part(), d.any(deep-1)))
	}
	return v
}
