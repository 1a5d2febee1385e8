package update_test

import (
	"slices"
	"strings"
	"testing"

	"coffret/api"
	"coffret/path"
	"coffret/update"
	"coffret/value"
)

// after is what an update makes of a document, if it tells no error.
func after(t *testing.T, v, d api.Value) (api.Value, bool) {
	t.Helper()
	u, e := update.Parse(v, api.Value{})
	if e != api.OK {
		return api.Value{}, false
	}
	got, e := u.Apply(d, nil)
	if e != api.OK && !same(got, api.Value{}) {
		t.Fatalf("%s of %s: %s beside %d", show(v), show(d), show(got), e)
	}
	return got, e == api.OK
}

// plain is a way without `$` in it.
func (m maker) plain() string {
	for {
		if way := m.way(); !strings.Contains(way, "$") {
			return way
		}
	}
}

// wantAfter: one thing follows, of many ways, documents and values, whenever there is no error.
func wantAfter(t *testing.T, name string, follows func(way string, x, d, after api.Value) bool) {
	t.Helper()
	m := newMaker(13)
	n := 0
	for range 6000 {
		way, x, d := m.plain(), m.takes(name), m.document()
		v, is := after(t, at(name, way, x), d)
		if !is {
			continue
		}
		n++
		if !follows(way, x, d, v) {
			t.Fatalf("%s of %s at %s: %s becomes %s", name, show(x), way, show(d), show(v))
		}
	}
	if n < 1000 {
		t.Error("too few", name, n)
	}
}

func there(d api.Value, way string) api.Value {
	v, _ := path.At(d, strings.Split(way, "."))
	return v
}

// TestBack: what was set is there, what was taken out is not; two changes that are none (P7.5).
func TestBack(t *testing.T) {
	wantAfter(t, "$set", func(way string, x, d, v api.Value) bool { return same(there(v, way), x) })
	wantAfter(t, "$unset", func(way string, x, d, v api.Value) bool {
		return there(v, way).Kind <= api.KindNull && there(v, way).Kind != api.KindMin
	})
	wantAfter(t, "$inc", func(way string, x, d, v api.Value) bool {
		if x.Int == api.MinInt {
			return true
		}
		back, is := after(t, at("$inc", way, num(-x.Int)), v)
		was := there(d, way)
		return is && (same(back, d) || was.Kind == 0 && same(there(back, way), num(0)))
	})
	wantAfter(t, "$push", func(way string, x, d, v api.Value) bool {
		if beginsWithOp(x) || there(d, way).Kind != api.KindList {
			return true
		}
		back, is := after(t, at("$pop", way, num(1)), v)
		return is && same(back, d)
	})
	wantAfter(t, "$add", func(way string, x, d, v api.Value) bool {
		again, is := after(t, at("$add", way, x), v)
		return is && same(again, v)
	})
	wantAfter(t, "$pull", func(way string, x, d, v api.Value) bool {
		return x.Kind == api.KindDoc || !slices.ContainsFunc(there(v, way).List, func(y api.Value) bool { return value.Compare(x, y) == 0 })
	})
	wantAfter(t, "$rename", func(way string, x, d, v api.Value) bool {
		if there(d, way).Kind == 0 {
			return same(v, d)
		}
		return same(there(v, x.Text), there(d, way)) && there(v, way).Kind <= api.KindNull
	})
}

// TestEitherOrder: ways that are not in conflict may stand in either order (P7.6).
func TestEitherOrder(t *testing.T) {
	m := newMaker(17)
	n := 0
	for range 40000 {
		d := m.document()
		one, other := m.single(), m.single()
		if one.Name == other.Name || lengthens(d, one) || lengthens(d, other) {
			continue
		}
		v, is := after(t, doc(one, other), d)
		w, isToo := after(t, doc(other, one), d)
		if is != isToo {
			t.Fatalf("%s, %s of %s: %v, %v", show(doc(one)), show(doc(other)), show(d), is, isToo)
		}
		if !is {
			continue
		}
		n++
		for _, way := range append(waysOf(one), waysOf(other)...) {
			if !same(there(v, way), there(w, way)) {
				t.Fatalf("%s, %s of %s: %s, %s", show(doc(one)), show(doc(other)), show(d), show(v), show(w))
			}
		}
	}
	if n < 1000 {
		t.Error("too few", n)
	}
}

// single is an operator with one way.
func (m maker) single() api.Field {
	name := pick(m.dice, strings.Fields(operatorNames)...)
	return of(name, op(m.plain(), m.takes(name)))
}

func waysOf(f api.Field) []string {
	x := f.Value.Doc[0]
	if f.Name == "$rename" {
		return []string{x.Name, x.Value.Text}
	}
	return []string{x.Name}
}

// lengthens tells whether a way may lead behind a list's end.
func lengthens(d api.Value, f api.Field) bool {
	for _, way := range waysOf(f) {
		parts := strings.Split(way, ".")
		for i := range parts {
			l, _ := path.At(d, parts[:i])
			_, is := path.At(d, parts[:i+1])
			if l.Kind == api.KindList && !is {
				return true
			}
		}
	}
	return false
}

// TestIdStays: the field `_id` stays as it is (P7.7).
func TestIdStays(t *testing.T) {
	m := newMaker(19)
	n := 0
	for range 30000 {
		d, filters := m.document(), m.elems()
		u, e := update.Parse(m.update(), filters)
		if e != api.OK {
			continue
		}
		f := meaning(t, m.filter(d))
		got, e := u.Apply(d, f)
		if e != api.OK {
			continue
		}
		n++
		was, is := value.Get(d, "_id")
		if now, still := value.Get(got, "_id"); is != still || !same(was, now) {
			t.Fatalf("%s of %s", show(got), show(d))
		}
	}
	if n < 3000 {
		t.Error("too few", n)
	}
}

// TestAlways: what is told hangs on the update, the filters, the document and the filter alone (W2).
func TestAlways(t *testing.T) {
	m := newMaker(23)
	for range 6000 {
		v, filters, d := m.update(), m.elems(), m.document()
		asked := m.filter(d)
		u, e := update.Parse(v, filters)
		if e != api.OK {
			continue
		}
		got, e := u.Apply(d, meaning(t, asked))
		u.Apply(m.document(), nil)
		u.Insert(nil)
		for _, x := range []*update.Update{u, parse(t, value.Clone(v), value.Clone(filters))} {
			again, e2 := x.Apply(value.Clone(d), meaning(t, asked))
			wantValue(t, again, e2, got, e, v, filters, asked, d)
		}
	}
}
