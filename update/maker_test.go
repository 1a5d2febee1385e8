package update_test

import (
	"slices"
	"strings"
	"testing"

	"coffret/api"
	"coffret/update"
	"coffret/value"
)

// maker makes documents and updates that look like any.
type maker struct{ *dice }

func newMaker(n int) maker {
	d := dice(n)
	return maker{&d}
}

// value is a value that may be.
func (m maker) value(deep int) api.Value {
	switch n := m.below(14); {
	case n < 2 && deep > 0:
		v := list()
		for range m.below(4) {
			v.List = append(v.List, m.value(deep-1))
		}
		return v
	case n < 4 && deep > 0:
		v := doc()
		for _, name := range []string{"k", "n", "l"} {
			if m.below(2) == 0 {
				v.Doc = append(v.Doc, of(name, m.value(deep-1)))
			}
		}
		return v
	case n == 4:
		return pick(m.dice, kinds()...)
	case n == 5:
		return pick(m.dice, null(), txt("x"), txt(""), flag(true), date(1), num(api.MinInt), num(api.MaxInt))
	}
	return num(m.below(5) - 1)
}

// row is a list of values, most of them numbers, or of documents.
func (m maker) row(docs bool) api.Value {
	l := list()
	for range m.below(5) {
		x := m.value(m.below(2))
		if docs && m.below(8) > 0 {
			x = doc(of("k", m.value(0)), of("n", m.value(1)), of("l", m.row(false)))
			x.Doc = x.Doc[m.below(3):]
		}
		l.List = append(l.List, x)
	}
	return l
}

// document is a document, seldom something else, with a value, now and then, that may not be.
func (m maker) document() api.Value {
	d := doc(of("_id", m.value(1)), of("a", m.value(1)), of("b", m.value(0)), of("l", m.row(false)), of("x", m.row(true)), of("d", doc(of("k", m.value(1)), of("l", m.row(m.below(2) == 0)))), of("q", list(m.row(false), m.row(false))))
	for i := range d.Doc {
		if m.below(20) == 0 {
			d.Doc[i].Value = m.value(2)
		}
		if m.below(100) == 0 {
			d.Doc[i].Value = pick(m.dice, api.Value{}, list(api.Value{}), api.Value{Kind: 77})
		}
	}
	for range m.below(3) {
		n := m.below(len(d.Doc))
		d.Doc = slices.Delete(d.Doc, n, n+1)
	}
	if m.below(60) == 0 {
		return pick(m.dice, list(d, d), m.value(2), api.Value{}, doc(append(d.Doc, d.Doc...)...))
	}
	return d
}

func (m maker) way() string {
	return pick(m.dice, strings.Fields("a a b l l l.0 l.1 l.4 x x.0 x.1.k x.0.n x.0.l x.k d d.k d.k d.l d.l d.l.0 z z.y z.0 a.k q q.0 q.1.0 a.b.c l.$ l.$ x.$ x.$.k x.$.k x.$.n x.$.l x.1.l.$ x.$.l.0 x.$.l.$[] x.$.l.$[e] d.l.$ d.l.$ l.$[] l.$[] x.$[] x.$[].k x.$[].n x.$[].z.y x.$[].l x.$[].l.$[] x.$[].l.$[e] x.$[e].k x.$[f].n x.$[f].k x.$[f] l.$[e] l.$[e] d.l.$[f] d.l.$[f].k q.$[] q.$[].$[] q.$[].$[e] q.$[].0 x.$[].l.$ z.$[] _idx")...)
}

// takes is what an operator takes, most often.
func (m maker) takes(name string) api.Value {
	switch name {
	case "$inc", "$mul":
		return num(pick(m.dice, 1, -1, 2, 7, 0, api.MaxInt, api.MinInt))
	case "$rename":
		return txt(pick(m.dice, "z", "y.z", "b", "d.z", "l.2", "x.0.z", "x.k", "a.k", "q.0", "_idx"))
	case "$pop":
		return num(pick(m.dice, 1, -1))
	case "$pull":
		if m.below(2) == 0 {
			return m.elem()
		}
	case "$push", "$add":
		if m.below(2) == 0 {
			return m.each(name)
		}
	}
	return m.value(2)
}

func (m maker) each(name string) api.Value {
	v := doc(of("$each", m.row(m.below(2) == 0)))
	if name == "$push" {
		for _, x := range []string{"$sort", "$at", "$slice"} {
			n := num(m.below(10) - 5)
			if x == "$sort" {
				n = num(pick(m.dice, 1, -1))
			}
			if m.below(2) == 0 {
				v.Doc = append(v.Doc, of(x, n))
			}
		}
	}
	return v
}

// elem is a document as `$elem` takes it.
func (m maker) elem() api.Value {
	n := m.value(0)
	return pick(m.dice, op("$gt", n), op("$eq", n), op("$gte", n), op("$ne", n), op("k", n), op("k", op("$gt", n)), op("n", n), doc(), val(`{"$or": [{"k": 1}, {"n": {"$exists": false}}]}`), val(`{"$type": "int"}`), val(`{"$expr": {"$mod": [4, "$k"]}}`), val(`{"$expr": {"$mod": [4, "$k"]}}`), val(`{"k": {"$exists": true}, "$expr": {"$mod": ["$k", 2]}}`), val(`{"$expr": {"$add": ["$k", 9223372036854775807]}}`))
}

// elems are filters for elements.
func (m maker) elems() api.Value {
	return list(doc(of("as", txt("e")), of("elem", m.elem())), doc(of("as", txt("f")), of("elem", m.elem())))
}

// filter is a filter of which a document, often, is meant; missing: none.
func (m maker) filter(d api.Value) api.Value {
	some := func(name string) api.Value { // an element that is there
		l, _ := value.Get(d, name)
		if len(l.List) == 0 {
			return num(1)
		}
		return pick(m.dice, l.List...)
	}
	k, _ := value.Get(some("x"), "k")
	if k.Kind == 0 {
		k = num(1)
	}
	f := doc(of("l", op("$eq", some("l"))), of("x.k", op("$eq", k)), of("d.l", op("$gt", num(0))), of("x.1.l", num(1)), of("_id", m.value(1)), of("a", op("$exists", flag(true))), of("b", m.value(0)), of("x", val(`{"$elem": {"k": {"$gt": 0}}}`)))
	for range m.below(8) {
		n := m.below(len(f.Doc))
		f.Doc = slices.Delete(f.Doc, n, n+1)
	}
	if m.below(8) == 0 || value.Right(f) != api.OK {
		return api.Value{}
	}
	return f
}

// update is an update that, most often, may be.
func (m maker) update() api.Value {
	if m.below(15) == 0 {
		v := pick(m.dice, doc(), op("_id", m.value(0)), doc(of("a", m.value(1)), of("_id", m.value(0))))
		return doc(append(v.Doc, of("y", m.value(2)))...)
	}
	v := doc()
	for range 1 + m.below(3) {
		name := pick(m.dice, strings.Fields(operatorNames)...)
		ways := doc()
		for range 1 + m.below(2) {
			ways = value.With(ways, m.way(), m.takes(name))
		}
		v = value.With(v, name, ways)
	}
	return v
}

// spoilt is an update, or filters, with something else at some place.
func (m maker) spoilt(v api.Value) api.Value {
	v = value.Clone(v)
	switch {
	case len(v.Doc) > 0 && m.below(5) > 0:
		f := &v.Doc[m.below(len(v.Doc))]
		if m.below(3) == 0 {
			f.Name = pick(m.dice, "$", "$x", "a.", "a..b", "$set", "$push", "$rename", "$each", "$at", "$sort", "a", "as", "elem", "_id", "_id.k", "a.$.b.$", "a.$[g]", "a.$[e", "$[]", "l.$[e].$[f].$[]", "1.2.3.4.5.6.7.8.9.$", "1.2.3.4.5.6.7.8.9.10.$", "$gt", "a\x00")
		} else {
			f.Value = m.spoilt(f.Value)
		}
	case len(v.List) > 0 && m.below(5) > 0:
		at := m.below(len(v.List))
		v.List[at] = m.spoilt(v.List[at])
	default:
		return pick(m.dice, num(0), num(1), txt("x"), txt("_id"), txt("$"), txt("a.$"), txt("e"), txt("f"), txt(""), list(), list(num(1)), doc(), val(`{"$x": 1}`), val(`{"$gt": 1}`), val(`{"k": 1}`), val(`{"$each": []}`), val(`{"$each": 1}`), val(`{"$each": [], "$at": 1, "$x": 1}`), null(), flag(true), date(1), api.Value{})
	}
	return v
}

// TestModel: updates of all shapes do what the chapter's words say (P7.2, P7.3).
func TestModel(t *testing.T) {
	m := newMaker(7)
	fine, failed, errs := map[string]int{}, map[string]int{}, map[api.Errno]int{}
	count := func(v api.Value, e api.Errno) {
		errs[e]++
		for _, f := range v.Doc {
			if e == api.OK {
				fine[f.Name]++
			} else {
				failed[f.Name]++
			}
		}
	}
	for range 30000 {
		d, v, filters := m.document(), m.update(), m.elems()
		u, e := update.Parse(v, filters)
		if e != api.OK {
			continue
		}
		asked := m.filter(d)
		r := run{v: v, filters: filters, by: meaning(t, asked)}
		for range 2 {
			want, wantE := told(func() api.Value { return r.apply(d) })
			got, e := u.Apply(d, r.by)
			wantValue(t, got, e, want, wantE, v, filters, asked, d)
			count(v, e)
			want, wantE = told(r.insert)
			got, e = u.Insert(r.by)
			wantValue(t, got, e, want, wantE, v, filters, asked)
			count(v, e)
		}
		if t.Failed() {
			return
		}
	}
	for _, name := range append(strings.Fields(operatorNames), "_id", "y") {
		if fine[name] < 300 || failed[name] < 300 {
			t.Error("too few of", name, fine[name], failed[name])
		}
	}
	for _, e := range []api.Errno{api.OK, api.ErrValueKind, api.ErrBlocked, api.ErrExprOver, api.ErrExprKind, api.ErrExprZero, api.ErrUpdateKind, api.ErrUpdatePosition, api.ErrUpdateId} {
		if errs[e] < 50 {
			t.Error("too few", e, errs)
		}
	}
}

// TestModelParse: what is wrong first is told, or nothing (P7.1).
func TestModelParse(t *testing.T) {
	m := newMaker(9)
	errs := map[api.Errno]int{}
	for range 30000 {
		v, filters := m.update(), m.elems()
		for range m.below(3) {
			v = m.spoilt(v)
		}
		for range m.below(6) / 4 {
			filters = m.spoilt(filters)
		}
		_, want := told(func() api.Value { modelParse(v, filters); return doc() })
		wantParse(t, v, filters, want)
		if t.Failed() {
			return
		}
		errs[want]++
	}
	for _, e := range []api.Errno{api.OK, api.ErrValueKind, api.ErrValueName, api.ErrFilterForm, api.ErrFilterOp, form, none, id, both} {
		if errs[e] < 50 {
			t.Error("too few", e, errs)
		}
	}
}
