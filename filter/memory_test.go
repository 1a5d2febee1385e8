package filter_test

import (
	"slices"
	"testing"

	"coffret/api"
)

// roomy is v in lists that all have spare room, in which something stands.
func roomy(v api.Value) api.Value {
	l := make([]api.Value, len(v.List)+3)
	for i := range l {
		l[i] = list(txt("spare"))
	}
	for i, x := range v.List {
		l[i] = roomy(x)
	}
	d := make([]api.Field, len(v.Doc)+3)
	for i := range d {
		d[i] = of("spare", list(txt("room")))
	}
	for i, f := range v.Doc {
		d[i] = of(f.Name, roomy(f.Value))
	}
	v.List, v.Doc = l[:len(v.List)], d[:len(v.Doc)]
	return v
}

// used is v with its lists' spare room as if it were used.
func used(v api.Value) api.Value {
	out := v
	out.List, out.Doc = nil, nil
	for _, x := range v.List[:cap(v.List)] {
		out.List = append(out.List, used(x))
	}
	for _, f := range v.Doc[:cap(v.Doc)] {
		out.Doc = append(out.Doc, of(f.Name, used(f.Value)))
	}
	return out
}

// cells notes where all elements and fields of values lie, spare room too.
type cells struct {
	values map[*api.Value]bool
	fields map[*api.Field]bool
	shared bool
}

func (c *cells) note(v api.Value) {
	l := v.List[:cap(v.List)]
	for i := range l {
		c.shared = c.shared || c.values[&l[i]]
		c.values[&l[i]] = true
		c.note(l[i])
	}
	d := v.Doc[:cap(v.Doc)]
	for i := range d {
		c.shared = c.shared || c.fields[&d[i]]
		c.fields[&d[i]] = true
		c.note(d[i].Value)
	}
}

// apart tells whether conditions share no memory with the arguments, nor with each other, nor within.
func apart(args []api.Value, answers ...[]api.Cond) bool {
	c := &cells{values: map[*api.Value]bool{}, fields: map[*api.Field]bool{}}
	for _, v := range args {
		c.note(v)
	}
	c.shared = false // the arguments may share what they like
	for _, l := range answers {
		for _, x := range l[:cap(l)] {
			c.note(x.Value)
		}
	}
	return !c.shared
}

// wild overwrites all that v holds, spare room too.
func wild(v api.Value) {
	for i := range v.List[:cap(v.List)] {
		wild(v.List[:cap(v.List)][i])
		v.List[:cap(v.List)][i] = txt("wild")
	}
	for i := range v.Doc[:cap(v.Doc)] {
		wild(v.Doc[:cap(v.Doc)][i].Value)
		v.Doc[:cap(v.Doc)][i] = of("wild", num(-1))
	}
}

func sameConds(a, b []api.Cond) bool {
	return slices.EqualFunc(a, b, func(x, y api.Cond) bool { return x.Path == y.Path && x.Op == y.Op && same(x.Value, y.Value) })
}

// checkMemory: nothing is changed, kept or shared where a filter is asked of d (P6.5).
func checkMemory(t *testing.T, v, d api.Value, list string) {
	t.Helper()
	handed, docs := roomy(v), roomy(d)
	wasV, wasD := used(handed), used(docs)
	f := parse(t, handed)
	is, e := f.Match(docs)
	at := f.Position(docs, list)
	conds, again := f.Conds(), f.Conds()
	if !same(used(handed), wasV) || !same(used(docs), wasD) {
		t.Fatalf("%s: changed", show(v))
	}
	if !apart([]api.Value{handed, docs}, conds, again) {
		t.Fatalf("%s: shared", show(v))
	}
	wild(handed)
	wild(docs)
	for i := range conds {
		wild(conds[i].Value)
		conds[i] = api.Cond{Path: "wild"}
	}
	later, laterE := f.Match(d)
	if later != is || laterE != e || f.Position(d, list) != at || !sameConds(f.Conds(), again) {
		t.Fatalf("%s: kept", show(v))
	}
}

// TestMemory: what is handed in is neither changed nor kept, what is answered is new (P6.5).
func TestMemory(t *testing.T) {
	m := newMaker(5)
	for range 4000 {
		d := m.document(3)
		checkMemory(t, m.filter(m.below(4)), d, pick(m.dice, "l", "x", "d.l", "a"))
	}
	d := val(`{"l": [[1], {"k": [2]}, []], "d": {"k": [2], "e": {}}, "x": [{"k": 1}, {"k": [1, {"n": 2}]}]}`)
	for _, s := range []string{`{"l": [[1], {"k": [2]}, []]}`, `{"l": {"$in": [[1], {"k": [2]}], "$eq": {"k": [2]}, "$gt": [[0]]}}`, `{"d": {"k": [2], "e": {}}}`, `{"x.k": [1, {"n": 2}], "$and": [{"l": []}, {"$and": [{"l": {"$lte": {"k": [2]}}}]}]}`, `{"l": []}`, `{"d.e": {}}`, `{"x": {"$elem": {"k": {"$all": [1, {"n": 2}]}}}}`, `{"$expr": {"$literal": [[1]]}, "$text": "x"}`} {
		for _, list := range []string{"l", "x", "d.k", "x.1.k"} {
			checkMemory(t, val(s), d, list)
		}
	}
}

// TestNilAndEmpty: a nil list and an empty one are the same (W5).
func TestNilAndEmpty(t *testing.T) {
	bare := api.Value{Kind: api.KindList, List: []api.Value{}, Doc: []api.Field{}}
	blank := api.Value{Kind: api.KindDoc, List: []api.Value{}, Doc: []api.Field{}}
	empty := api.Value{List: []api.Value{}, Doc: []api.Field{}}
	d := doc(of("l", bare), of("d", blank), of("m", empty))
	wantMeant(t, d, `{}`, `{"l": [], "d": {}, "m": null}`, `{"l": {"$size": 0}}`, `{"m": {"$exists": false}}`, `{"l": {"$in": [[]]}}`)
	wantOthers(t, d, `{"l": null}`, `{"d": {"$in": []}}`, `{"m": {"$type": "null"}}`)
	wantMatch(t, blank, d, true, api.OK)
	for _, v := range []api.Value{bare, list()} {
		wantParse(t, op("$and", v), api.ErrFilterForm)
		wantMatch(t, at("l", "$in", v), d, false, api.OK)
		wantMatch(t, at("l", "$all", v), d, false, api.OK)
		wantMatch(t, op("l", v), d, true, api.OK)
	}
	for _, v := range []api.Value{blank, doc()} {
		wantParse(t, at("a", "$not", v), api.ErrFilterForm)
		wantMatch(t, op("d", v), d, true, api.OK)
		wantMatch(t, at("l", "$elem", v), d, false, api.OK)
	}
	if got := parse(t, blank).Conds(); len(got) != 0 {
		t.Error(got)
	}
}

// TestAtOnce: one filter is asked by several at the same time (W2).
func TestAtOnce(t *testing.T) {
	f := parse(t, val(`{"x": {"$elem": {"k": {"$gt": 3}, "$expr": {"$eq": [{"$size": "$k"}, 2]}}}, "l": {"$gt": 1}, "$or": [{"a": 1}, {"a": 5}]}`))
	done := make(chan bool)
	for range 8 {
		go func() {
			ok := true
			for range 200 {
				is, e := f.Match(sample())
				ok = ok && is && e == api.OK && f.Position(sample(), "l") == 1 && len(f.Conds()) == 1
			}
			done <- ok
		}()
	}
	for range 8 {
		if !<-done {
			t.Error("told otherwise")
		}
	}
}
