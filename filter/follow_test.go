package filter_test

import (
	"slices"
	"testing"

	"coffret/api"
	"coffret/filter"
	"coffret/value"
)

// meant is whether a filter means a document, if no expression tells an error.
func meant(t *testing.T, v, d api.Value) (is, fine bool) {
	t.Helper()
	is, e := parse(t, v).Match(d)
	return is, e == api.OK
}

// TestJoins: `$and` means what both mean, `$or` what one does, `$nor` what neither does (P6.6).
func TestJoins(t *testing.T) {
	m := newMaker(31)
	n := 0
	for range 8000 {
		d, a, b := m.document(3), m.filter(2), m.filter(2)
		x, fineX := meant(t, a, d)
		y, fineY := meant(t, b, d)
		if !fineX || !fineY {
			continue
		}
		n++
		both := list(a, b)
		wantMatch(t, op("$and", both), d, x && y, api.OK)
		wantMatch(t, op("$or", both), d, x || y, api.OK)
		wantMatch(t, op("$nor", both), d, !x && !y, api.OK)
		wantMatch(t, op("$nor", list(op("$nor", list(a)))), d, x, api.OK)
	}
	if n < 6000 {
		t.Error("too few", n)
	}
}

// TestOpposites: `$ne` is not `$eq`, `$nin` not `$in`, `$in` of some `$or` of `$eq` (P6.6).
func TestOpposites(t *testing.T) {
	m := newMaker(37)
	for range 20000 {
		d, path, v := m.document(3), m.path(), m.wanted(2)
		is, _ := meant(t, at(path, "$eq", v), d)
		wantMatch(t, at(path, "$ne", v), d, !is, api.OK)
		wantMatch(t, at(path, "$not", op("$eq", v)), d, !is, api.OK)
		var l, each []api.Value
		for range m.below(5) {
			v := m.wanted(1)
			l, each = append(l, v), append(each, at(path, "$eq", v))
		}
		is, _ = meant(t, at(path, "$in", list(l...)), d)
		wantMatch(t, at(path, "$nin", list(l...)), d, !is, api.OK)
		if len(l) == 0 {
			if is {
				t.Fatal("one of none")
			}
			continue
		}
		wantMatch(t, op("$or", list(each...)), d, is, api.OK)
		all, _ := meant(t, at(path, "$all", list(l...)), d)
		wantMatch(t, op("$and", list(each...)), d, all, api.OK)
	}
}

// TestCondsHold: a document that is meant fulfils each of Conds, asked alone (P6.7).
func TestCondsHold(t *testing.T) {
	m := newMaker(41)
	n := 0
	for range 30000 {
		d, v := m.document(3), m.filter(m.below(2))
		f := parse(t, v)
		if is, _ := f.Match(d); !is {
			continue
		}
		for _, c := range f.Conds() {
			n++
			wantMatch(t, at(c.Path, c.Op, c.Value), d, true, api.OK)
		}
	}
	if n < 1000 {
		t.Error("too few", n)
	}
}

// TestItself: a document without lists means itself; one without fields all (P6.8).
func TestItself(t *testing.T) {
	m := newMaker(43)
	n := 0
	for range 5000 {
		d := listless(m.document(3))
		if d.Kind != api.KindDoc || value.Right(d) != api.OK {
			continue
		}
		n++
		wantMatch(t, d, d, true, api.OK)
		for i := range d.Doc {
			wantMatch(t, doc(slices.Delete(slices.Clone(d.Doc), i, i+1)...), d, true, api.OK)
		}
		wantMatch(t, doc(append(slices.Clip(d.Doc), of("other", num(1)))...), d, false, api.OK)
	}
	if n < 4000 {
		t.Error("too few", n)
	}
	for _, v := range append(kinds(), api.Value{}) {
		wantMatch(t, doc(), v, true, api.OK)
	}
}

// listless is a value with null in the place of each list.
func listless(v api.Value) api.Value {
	if v.Kind == api.KindList {
		return null()
	}
	v.Doc = slices.Clone(v.Doc)
	for i := range v.Doc {
		v.Doc[i].Value = listless(v.Doc[i].Value)
	}
	return v
}

// TestAlways: what is told hangs on the filter and the document alone (W2).
func TestAlways(t *testing.T) {
	m := newMaker(47)
	for range 5000 {
		d, v := m.document(3), m.filter(3)
		f, g := parse(t, v), parse(t, value.Clone(v))
		is, e := f.Match(d)
		f.Match(m.document(3))
		f.Position(m.document(3), "l")
		for _, x := range []*filter.Filter{f, g} {
			if again, e2 := x.Match(value.Clone(d)); again != is || e2 != e {
				t.Fatalf("%s: %v %d, then %v %d", show(v), is, e, again, e2)
			}
		}
	}
}
