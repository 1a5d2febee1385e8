package update_test

import (
	"slices"
	"testing"

	"coffret/api"
	"coffret/update"
)

// roomy is v in lists that all have spare room, in which something stands.
func roomy(v api.Value) api.Value {
	l := make([]api.Value, len(v.List)+3)
	for i := range l {
		l[i] = list(txt("spare"))
	}
	for i, x := range v.List {
		l[i] = roomy(x)
	}
	d := make([]api.Field, len(v.Doc)+3)
	for i := range d {
		d[i] = of("spare", list(txt("room")))
	}
	for i, f := range v.Doc {
		d[i] = of(f.Name, roomy(f.Value))
	}
	v.List, v.Doc = l[:len(v.List)], d[:len(v.Doc)]
	return v
}

// used is v with its lists' spare room as if it were used.
func used(v api.Value) api.Value {
	out := v
	out.List, out.Doc = nil, nil
	for _, x := range v.List[:cap(v.List)] {
		out.List = append(out.List, used(x))
	}
	for _, f := range v.Doc[:cap(v.Doc)] {
		out.Doc = append(out.Doc, of(f.Name, used(f.Value)))
	}
	return out
}

// cells notes where all elements and fields of values lie, spare room too.
type cells struct {
	values map[*api.Value]bool
	fields map[*api.Field]bool
	shared bool
}

func (c *cells) note(v api.Value) {
	l := v.List[:cap(v.List)]
	for i := range l {
		c.shared = c.shared || c.values[&l[i]]
		c.values[&l[i]] = true
		c.note(l[i])
	}
	d := v.Doc[:cap(v.Doc)]
	for i := range d {
		c.shared = c.shared || c.fields[&d[i]]
		c.fields[&d[i]] = true
		c.note(d[i].Value)
	}
}

// apart tells whether answers share no memory with the arguments, nor with each other, nor within.
func apart(args []api.Value, answers ...api.Value) bool {
	c := &cells{values: map[*api.Value]bool{}, fields: map[*api.Field]bool{}}
	for _, v := range args {
		c.note(v)
	}
	c.shared = false // the arguments may share what they like
	for _, v := range answers {
		c.note(v)
	}
	return !c.shared
}

// wild overwrites all that v holds, spare room too.
func wild(v api.Value) {
	for i := range v.List[:cap(v.List)] {
		wild(v.List[:cap(v.List)][i])
		v.List[:cap(v.List)][i] = txt("wild")
	}
	for i := range v.Doc[:cap(v.Doc)] {
		wild(v.Doc[:cap(v.Doc)][i].Value)
		v.Doc[:cap(v.Doc)][i] = of("wild", num(-1))
	}
}

// checkMemory: nothing is changed, kept or shared where an update is applied to d (P7.4).
func checkMemory(t *testing.T, v, filters, asked, d api.Value) {
	t.Helper()
	handed, elems, docs := roomy(v), roomy(filters), roomy(d)
	was := []api.Value{used(handed), used(elems), used(docs)}
	u, e := update.Parse(handed, elems)
	if e != api.OK {
		return
	}
	f := meaning(t, asked)
	var first, again []api.Value
	for range 2 {
		a, _ := u.Apply(docs, f)
		b, _ := u.Insert(f)
		first, again = again, []api.Value{a, b}
	}
	if !slices.EqualFunc([]api.Value{used(handed), used(elems), used(docs)}, was, same) {
		t.Fatalf("%s: changed", show(v))
	}
	if !apart([]api.Value{handed, elems, docs}, append(slices.Clone(first), again...)...) {
		t.Fatalf("%s of %s: shared", show(v), show(d))
	}
	for _, x := range append([]api.Value{handed, elems, docs}, first...) {
		wild(x)
	}
	a, _ := u.Apply(d, f)
	b, _ := u.Insert(f)
	if !same(a, again[0]) || !same(b, again[1]) {
		t.Fatalf("%s of %s: kept", show(v), show(d))
	}
}

// TestMemory: what is handed in is neither changed nor kept, what is answered is new (P7.4).
func TestMemory(t *testing.T) {
	m := newMaker(5)
	for range 6000 {
		d := m.document()
		checkMemory(t, m.update(), m.elems(), m.filter(d), d)
	}
	d := val(`{"_id": {"k": [1]}, "l": [[1], {"k": [2]}, [], {}], "m": [], "d": {"k": [2], "e": {}}, "n": 5}`)
	for _, s := range []string{
		`{"b": [[1], {"k": []}], "c": {}}`, `{"_id": {"k": [1]}, "b": [1]}`, `{}`, `{"$set": {}}`, `{"$set": {"l.$[]": [[1], {"k": [2]}]}}`, `{"$set": {"l.$[e].n": {"k": []}, "a.b.c": [[1]]}}`, `{"$set": {"l.$": [[1]]}}`, `{"$setOnInsert": {"x": [[1]], "y.z": {"k": {}}}}`, `{"$min": {"l": [[1]], "z": [[1]]}, "$max": {"n": {"k": [1]}}}`, `{"$unset": {"l.0": 1, "d.e": 1, "m": 1}}`, `{"$rename": {"l": "d.l", "m": "y.z"}}`, `{"$rename": {"l.0": "d.l"}}`,
		`{"$push": {"l": [1], "m": {"k": [1]}, "z": []}}`, `{"$push": {"l": {"$each": [[1], {"k": [1]}], "$at": 1, "$sort": -1, "$slice": 3}}}`, `{"$push": {"l": {"$each": [], "$slice": 1}, "m": {"$each": []}}}`, `{"$push": {"l": {"$each": [], "$slice": 0}, "z": {"$each": [[1]], "$slice": -1}}}`, `{"$add": {"l": {"$each": [[1], [3], {"k": [5]}]}, "m": [], "z": {"k": []}}}`, `{"$pull": {"l": {"k": {"$exists": true}}, "m": 1}}`, `{"$pull": {"l": [1]}}`, `{"$pop": {"l": 1, "m": 1}}`, `{"$pop": {"l": -1}}`, `{"$push": {"l.$[f]": [1]}, "$pop": {"l.0": -1}}`,
	} {
		for _, asked := range []string{"", `{"l": {"$size": 0}}`, `{"_id": {"k": [1]}, "l": {"$eq": [[1], {"k": [2]}]}, "d.k": []}`} {
			checkMemory(t, val(s), val(`[{"as": "e", "elem": {"k": [2]}}, {"as": "f", "elem": {"$type": "list"}}]`), maybe(asked), d)
		}
	}
}

// TestNilAndEmpty: a nil list and an empty one are the same (W5).
func TestNilAndEmpty(t *testing.T) {
	bare := api.Value{Kind: api.KindList, List: []api.Value{}, Doc: []api.Field{}}
	blank := api.Value{Kind: api.KindDoc, List: []api.Value{}, Doc: []api.Field{}}
	empty := api.Value{List: []api.Value{}, Doc: []api.Field{}}
	for _, filters := range []api.Value{bare, list(), empty, {}} {
		wantParse(t, blank, filters, api.OK)
		wantParse(t, op("$set", blank), filters, api.OK)
		wantParse(t, at("$set", "l.$[e]", num(1)), filters, form)
	}
	wantApply(t, blank, val(`{"_id": 1, "a": 2}`), op("_id", num(1)), api.OK)
	wantApply(t, doc(), blank, doc(), api.OK)
	wantApply(t, op("$set", blank), blank, doc(), api.OK)
	wantApply(t, at("$push", "l", op("$each", bare)), doc(), op("l", list()), api.OK)
	wantApply(t, at("$push", "l", blank), op("l", bare), op("l", list(doc())), api.OK)
	wantApply(t, at("$add", "l", bare), op("l", list(list())), op("l", list(list())), api.OK)
	wantApply(t, at("$pull", "l", blank), op("l", list(blank, bare)), op("l", list(list())), api.OK)
	wantApply(t, at("$pop", "l", num(1)), op("l", bare), op("l", list()), api.OK)
	wantApply(t, at("$set", "l.$[]", num(1)), op("l", bare), op("l", list()), api.OK)
	wantApply(t, at("$set", "d.k", num(1)), op("d", blank), val(`{"d": {"k": 1}}`), api.OK)
	got, e := parse(t, blank, empty).Insert(meaning(t, blank))
	wantValue(t, got, e, doc(), api.OK)
}

// TestAtOnce: one update is applied by several at the same time (W2).
func TestAtOnce(t *testing.T) {
	u := parse(t, val(`{"$push": {"l": {"$each": [[4], [2]], "$sort": -1, "$slice": 4}}, "$inc": {"x.$[e].k": 1}, "$set": {"x.$.n": [1]}, "$pull": {"m": {"$gt": 1}}}`), val(`[{"as": "e", "elem": {"$expr": {"$gt": ["$k", 1]}}}]`))
	f := meaning(t, val(`{"x.k": 2}`))
	want := val(`{"_id": 1, "a": 5, "l": [[4], [2], 9, 5], "x": [{"k": 1}, {"k": 3, "n": [1]}]}`)
	done := make(chan bool)
	for range 8 {
		go func() {
			ok := true
			for range 200 {
				got, e := u.Apply(example(), f)
				ok = ok && e == api.OK && same(got, want)
				got, e = u.Insert(nil)
				ok = ok && e == api.ErrBlocked && same(got, api.Value{})
			}
			done <- ok
		}()
	}
	for range 8 {
		if !<-done {
			t.Error("told otherwise")
		}
	}
}
