package index_test

import (
	"bytes"
	"slices"
	"testing"

	"coffret/api"
	"coffret/index"
)

// roomy is v in lists that all have spare room, in which something stands.
func roomy(v api.Value) api.Value {
	l := make([]api.Value, len(v.List)+2)
	for i := range l {
		l[i] = list(date(-77), txt("spare"))
	}
	for i, x := range v.List {
		l[i] = roomy(x)
	}
	d := make([]api.Field, len(v.Doc)+2)
	for i := range d {
		d[i] = of("a", list(date(-77), txt("room")))
	}
	for i, f := range v.Doc {
		d[i] = of(f.Name, roomy(f.Value))
	}
	v.List, v.Doc = l[:len(v.List)], d[:len(v.Doc)]
	return v
}

// used is v with its lists' spare room as if it were used.
func used(v api.Value) api.Value {
	out := v
	out.List, out.Doc = nil, nil
	for _, x := range v.List[:cap(v.List)] {
		out.List = append(out.List, used(x))
	}
	for _, f := range v.Doc[:cap(v.Doc)] {
		out.Doc = append(out.Doc, of(f.Name, used(f.Value)))
	}
	return out
}

// same tells whether two values are the same.
func same(a, b api.Value) bool {
	sameField := func(x, y api.Field) bool { return x.Name == y.Name && same(x.Value, y.Value) }
	return a.Kind == b.Kind && a.Int == b.Int && a.Text == b.Text && slices.EqualFunc(a.List, b.List, same) && slices.EqualFunc(a.Doc, b.Doc, sameField)
}

// roomyFields are fields with spare room, in which others stand.
func roomyFields(l []api.IndexField) []api.IndexField {
	return append(slices.Clone(l), down("a.b"), up("b"), up("0"))[:len(l)]
}

// TestNothingChanged: what is handed in stays as it is, spare room too, and none of that room is looked at (P10.4).
func TestNothingChanged(t *testing.T) {
	d := dice(7)
	for range 4000 {
		v, x := d.document(4), d.index()
		want, wantE := index.Keys(x, v)
		wantN, wantIs := index.Expires(x, v)
		handed := roomy(v)
		wasV := used(handed)
		x.Fields = roomyFields(x.Fields)
		wasX := slices.Clone(x.Fields[:cap(x.Fields)])
		got, e := index.Keys(x, handed)
		n, is := index.Expires(x, handed)
		if e != wantE || !slices.EqualFunc(got, want, bytes.Equal) || n != wantN || is != wantIs || index.Right(x) != api.OK {
			t.Fatalf("%v of %v: spare room is looked at", x, v)
		}
		if !same(used(handed), wasV) || !slices.Equal(x.Fields[:cap(x.Fields)], wasX) {
			t.Fatalf("%v of %v: changed", x, v)
		}
	}
}

// wild overwrites a key, its spare room too.
func wild(key []byte) {
	key = key[:cap(key)]
	for i := range key {
		key[i] = 'w'
	}
}

// TestNewMemory: no key shares memory with another one, of the same answer or a later one (P10.4).
func TestNewMemory(t *testing.T) {
	d := dice(8)
	several := 0
	for range 8000 {
		v, x := d.document(4), d.index()
		first, _ := index.Keys(x, v)
		second, e := index.Keys(x, v)
		if e != api.OK {
			continue
		}
		if len(first) > 2 {
			several++
		}
		for i := range first {
			wild(first[i])
			if !slices.EqualFunc(first[i+1:], second[i+1:], bytes.Equal) {
				t.Fatalf("%v of %v: two keys share memory", x, v)
			}
		}
		clear(first[:cap(first)])
		if third, _ := index.Keys(x, v); !slices.EqualFunc(second, third, bytes.Equal) {
			t.Fatalf("%v of %v: an answer is kept", x, v)
		}
	}
	if several < 500 {
		t.Error("too few", several)
	}
}

// TestNothingKept: what is done to what was handed in changes no answer (P10.4).
func TestNothingKept(t *testing.T) {
	v, x := example(), on(up("a"))
	got, _ := index.Keys(x, v)
	v.Doc[0].Value.List[0], x.Fields[0].Desc = txt("wild"), true
	wantKeys(t, "of what it was", on(up("a")), example(), each(num(5), num(7), list(num(5), num(7)))...)
	if want, _ := index.Keys(on(up("a")), example()); !slices.EqualFunc(got, want, bytes.Equal) {
		t.Error("an answer was changed:", short(got))
	}
	wantKeys(t, "of what it is", x, v, each(list(txt("wild"), num(7)), txt("wild"), num(7))...)
}

// TestSameAgain: what is told hangs on the arguments alone (W2).
func TestSameAgain(t *testing.T) {
	v := doc(of("a", list(numbered("w", 100), numbered("v", 50), txt("x y x"))), of("b", list(tiny(20)...)))
	for _, x := range []api.Index{text("a"), text("z", "a", "b"), on(up("b"), down("b.3"), up("z")), on(down("b"))} {
		first, e := index.Keys(x, v)
		if e != api.OK || len(first) < 20 {
			t.Fatal(e, short(first))
		}
		for range 20 {
			if l, again := index.Keys(x, v); again != e || !slices.EqualFunc(l, first, bytes.Equal) {
				t.Fatalf("%s and %s", short(first), short(l))
			}
		}
	}
}
