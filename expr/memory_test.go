package expr_test

import (
	"slices"
	"testing"

	"coffret/api"
	"coffret/expr"
)

// roomy is v in lists that all have spare room, in which something stands.
func roomy(v api.Value) api.Value {
	l := make([]api.Value, len(v.List)+3)
	for i := range l {
		l[i] = list(txt("spare"))
	}
	for i, x := range v.List {
		l[i] = roomy(x)
	}
	d := make([]api.Field, len(v.Doc)+3)
	for i := range d {
		d[i] = of("spare", list(txt("room")))
	}
	for i, f := range v.Doc {
		d[i] = of(f.Name, roomy(f.Value))
	}
	v.List, v.Doc = l[:len(v.List)], d[:len(v.Doc)]
	return v
}

// used is v with its lists' spare room as if it were used.
func used(v api.Value) api.Value {
	out := v
	out.List, out.Doc = nil, nil
	for _, x := range v.List[:cap(v.List)] {
		out.List = append(out.List, used(x))
	}
	for _, f := range v.Doc[:cap(v.Doc)] {
		out.Doc = append(out.Doc, of(f.Name, used(f.Value)))
	}
	return out
}

// cells notes where all elements and fields of values lie, spare room too.
type cells struct {
	values map[*api.Value]bool
	fields map[*api.Field]bool
	shared bool
}

func (c *cells) note(v api.Value) {
	l := v.List[:cap(v.List)]
	for i := range l {
		c.shared = c.shared || c.values[&l[i]]
		c.values[&l[i]] = true
		c.note(l[i])
	}
	d := v.Doc[:cap(v.Doc)]
	for i := range d {
		c.shared = c.shared || c.fields[&d[i]]
		c.fields[&d[i]] = true
		c.note(d[i].Value)
	}
}

// apart tells whether answers share no memory with the arguments, nor with each other, nor within.
func apart(args []api.Value, answers ...api.Value) bool {
	c := &cells{values: map[*api.Value]bool{}, fields: map[*api.Field]bool{}}
	for _, v := range args {
		c.note(v)
	}
	c.shared = false // the arguments may share what they like
	for _, v := range answers {
		c.note(v)
	}
	return !c.shared
}

// wild overwrites all that v holds, spare room too.
func wild(v api.Value) {
	for i := range v.List[:cap(v.List)] {
		wild(v.List[:cap(v.List)][i])
		v.List[:cap(v.List)][i] = txt("wild")
	}
	for i := range v.Doc[:cap(v.Doc)] {
		wild(v.Doc[:cap(v.Doc)][i].Value)
		v.Doc[:cap(v.Doc)][i] = of("wild", num(-1))
	}
}

// checkMemory: nothing is changed, kept or shared where v is worked out of d (P5.4).
func checkMemory(t *testing.T, v, d api.Value) {
	t.Helper()
	handed, docs := roomy(v), roomy(d)
	wasV, wasD := used(handed), used(docs)
	x, e := expr.Parse(handed)
	if e != api.OK {
		return
	}
	got, e := x.Eval(docs)
	again, _ := x.Eval(docs)
	if !same(used(handed), wasV) || !same(used(docs), wasD) {
		t.Fatalf("%s: changed", show(v))
	}
	if !apart([]api.Value{handed, docs}, got, again) {
		t.Fatalf("%s: shared", show(v))
	}
	wild(handed)
	wild(got)
	wild(docs)
	later, f := x.Eval(d)
	if e != f || !same(later, again) {
		t.Fatalf("%s: kept: %s %d, then %s %d", show(v), show(again), e, show(later), f)
	}
}

// TestMemory: what is handed in is neither changed nor kept, what is answered is new (P5.4).
func TestMemory(t *testing.T) {
	m := &maker{dice: new(dice)}
	*m.dice = 5
	d := sample()
	for range 4000 {
		checkMemory(t, m.any(1+m.dice.below(3)), d)
	}
	d = doc(of("l", list(list(num(1)), doc(of("k", list())))), of("d", doc(of("k", list(num(2))), of("e", doc()))), of("le", list()))
	for _, s := range []string{
		`"$$ROOT"`, `"$l"`, `"$le"`, `"$d"`, `"$d.e"`, `"$l.k"`, `["$l", "$l", "$$ROOT"]`, `{"a": "$d", "b": "$d"}`, `{"$literal": [[1], {"a": [2]}]}`, `[{"$literal": [1]}, [1], {"a": []}]`, `{"$join": "$l"}`, `{"$join": ["$l", "$l"]}`, `{"$reverse": "$l"}`, `{"$slice": ["$l", 0, 1]}`, `{"$slice": ["$l", 0, 2]}`, `{"$slice": ["$l", 1, 0]}`, `{"$at": ["$l", 0]}`, `{"$min": "$l"}`, `{"$max": ["$l", "$d"]}`, `{"$merge": ["$d", "$d"]}`, `{"$merge": "$d"}`, `{"$ifNull": ["$d", 1]}`, `{"$cond": [1, "$l", 1]}`, `{"$split": ["a,b", ","]}`, `{"$range": [0, 3]}`,
		`{"$map": {"input": "$l", "as": "x", "in": ["$$x", "$$x"]}}`, `{"$filter": {"input": "$l", "as": "x", "cond": 1}}`, `{"$reduce": {"input": "$l", "initial": "$l", "in": ["$$value", "$$this", "$$value"]}}`, `{"$reduce": {"input": [], "initial": "$l", "in": 1}}`, `{"$map": {"input": "$l", "as": "x", "in": {"$literal": [1, [2]]}}}`,
	} {
		checkMemory(t, val(s), d)
	}
}

// TestNilAndEmpty: a nil list and an empty one are the same (W5).
func TestNilAndEmpty(t *testing.T) {
	bare := api.Value{Kind: api.KindList, List: []api.Value{}, Doc: []api.Field{}}
	blank := api.Value{Kind: api.KindDoc, List: []api.Value{}, Doc: []api.Field{}}
	empty := api.Value{List: []api.Value{}, Doc: []api.Field{}}
	d := doc(of("l", bare), of("d", blank), of("m", empty))
	wantRows(t, d, []row{{`["$l", "$d", "$m"]`, `[[], {}, null]`}, {`{"a": "$l", "b": "$d", "c": "$m"}`, `{"a": [], "b": {}}`}, {`{"$type": "$m"}`, `"missing"`}, {`{"$ifNull": ["$m", 1]}`, `1`}, {`{"$join": ["$l", "$l"]}`, `[]`}, {`{"$merge": ["$d", "$d"]}`, `{}`}, {`{"$max": [["$m", 1]]}`, `1`}, {`{"$add": ["$m", 1]}`, `null`}})
	wantValue(t, bare, d, list(), api.OK)
	wantValue(t, blank, d, doc(), api.OK)
	wantValue(t, call("$join", bare, bare), d, list(), api.OK)
	wantParse(t, op("$add", bare), api.ErrExprForm)
	wantParse(t, api.Value{Kind: api.KindInt, Int: 5, List: []api.Value{}, Doc: []api.Field{}}, api.OK)
}

// TestAtOnce: one expression is worked out by several at the same time (W2).
func TestAtOnce(t *testing.T) {
	v := val(`{"$map": {"input": "$l", "as": "x", "in": {"$reduce": {"input": "$l", "initial": ["$$x"], "in": {"$join": ["$$value", ["$$this"]]}}}}}`)
	x, e := expr.Parse(v)
	want, wantE := modelOf(v, sample())
	if e != api.OK || wantE != api.OK {
		t.Fatal(e, wantE)
	}
	done := make(chan bool)
	for range 8 {
		go func() {
			ok := true
			for range 200 {
				got, e := x.Eval(sample())
				ok = ok && e == api.OK && same(got, want)
			}
			done <- ok
		}()
	}
	var all []bool
	for range 8 {
		all = append(all, <-done)
	}
	if slices.Contains(all, false) {
		t.Error("told otherwise")
	}
}

// TestDeep: values nested as deep as the bound has it (W1).
func TestDeep(t *testing.T) {
	deep, docs := num(7), num(7)
	for range 1<<16 - 2 {
		deep = list(deep)
		docs = doc(of("a", docs))
	}
	wantValue(t, txt("$$ROOT"), deep, deep, api.OK)
	wantValue(t, txt("$$ROOT"), docs, docs, api.OK)
	wantValue(t, val(`["$$ROOT"]`), deep, api.Value{}, api.ErrBig)
	wantValue(t, val(`{"a": "$a.a.a"}`), docs, api.Value{}, api.ErrBig)
	wantValue(t, val(`{"$eq": ["$$ROOT", "$$ROOT"]}`), deep, flag(true), api.OK)
	wantValue(t, txt("$a"), deep, list(chain(1<<16-3)), api.OK)
	grown := val(`{"$reduce": {"input": {"$range": [0, 4000]}, "initial": "$z", "in": {"a": ["$$value"]}}}`)
	got, e := eval(t, grown, doc())
	if e != api.OK {
		t.Fatal(e)
	}
	for range 4000 {
		if len(got.Doc) != 1 || len(got.Doc[0].Value.List) != 1 {
			t.Fatal("not so deep")
		}
		got = got.Doc[0].Value.List[0]
	}
	wantValue(t, val(`{"$reduce": {"input": {"$range": [0, 4600]}, "initial": 0, "in": {"a": ["$$value"]}}}`), doc(), api.Value{}, api.ErrBig)
}

// chain is so many lists within one another, the innermost one empty.
func chain(n int) api.Value {
	v := list()
	for range n - 1 {
		v = list(v)
	}
	return v
}
