package pipe_test

import (
	"slices"
	"testing"

	"coffret/api"
	"coffret/pipe"
)

// roomy is v in lists that all have spare room, in which something stands.
func roomy(v api.Value) api.Value {
	l := make([]api.Value, len(v.List)+3)
	for i := range l {
		l[i] = list(txt("spare"))
	}
	for i, x := range v.List {
		l[i] = roomy(x)
	}
	d := make([]api.Field, len(v.Doc)+3)
	for i := range d {
		d[i] = of("spare", list(txt("room")))
	}
	for i, f := range v.Doc {
		d[i] = of(f.Name, roomy(f.Value))
	}
	v.List, v.Doc = l[:len(v.List)], d[:len(v.Doc)]
	return v
}

// used is v with its lists' spare room as if it were used.
func used(v api.Value) api.Value {
	out := v
	out.List, out.Doc = nil, nil
	for _, x := range v.List[:cap(v.List)] {
		out.List = append(out.List, used(x))
	}
	for _, f := range v.Doc[:cap(v.Doc)] {
		out.Doc = append(out.Doc, of(f.Name, used(f.Value)))
	}
	return out
}

// cells notes where all elements and fields of values lie, spare room too.
type cells struct {
	values map[*api.Value]bool
	fields map[*api.Field]bool
	shared bool
}

func (c *cells) note(v api.Value) {
	l := v.List[:cap(v.List)]
	for i := range l {
		c.shared = c.shared || c.values[&l[i]]
		c.values[&l[i]] = true
		c.note(l[i])
	}
	d := v.Doc[:cap(v.Doc)]
	for i := range d {
		c.shared = c.shared || c.fields[&d[i]]
		c.fields[&d[i]] = true
		c.note(d[i].Value)
	}
}

// apart tells whether answers share no memory with the arguments, nor with each other, nor within.
func apart(args []api.Value, answers ...api.Value) bool {
	c := &cells{values: map[*api.Value]bool{}, fields: map[*api.Field]bool{}}
	for _, v := range args {
		c.note(v)
	}
	c.shared = false // the arguments may share what they like
	for _, v := range answers {
		c.note(v)
	}
	return !c.shared
}

// wild overwrites all that v holds, spare room too.
func wild(v api.Value) {
	for i := range v.List[:cap(v.List)] {
		wild(v.List[:cap(v.List)][i])
		v.List[:cap(v.List)][i] = txt("wild")
	}
	for i := range v.Doc[:cap(v.Doc)] {
		wild(v.Doc[:cap(v.Doc)][i].Value)
		v.Doc[:cap(v.Doc)][i] = of("wild", num(-1))
	}
}

// rooms are documents in a list with spare room, each roomy.
func rooms(docs []api.Value) []api.Value { return roomy(list(docs...)).List }

// checkMemory: nothing is changed, kept or shared where a pipeline runs over documents (P8.3).
func checkMemory(t *testing.T, v api.Value, docs []api.Value, o others) {
	t.Helper()
	handed, l := roomy(v), rooms(docs)
	p, e := pipe.Parse(handed)
	if e != api.OK {
		return
	}
	more := others{}
	for name, x := range o {
		more[name] = rooms(x)
	}
	args := []api.Value{handed, list(l...), list(more["o"]...), list(more["p"]...)}
	args[1].List, args[2].List, args[3].List = l, more["o"], more["p"]
	was := []api.Value{used(args[0]), used(args[1]), used(args[2]), used(args[3])}
	var answers []api.Value
	for range 2 {
		got, _ := p.Run(l, more.tell)
		answers = append(answers, api.Value{Kind: api.KindList, List: got}, p.Filter())
	}
	if !slices.EqualFunc([]api.Value{used(args[0]), used(args[1]), used(args[2]), used(args[3])}, was, same) {
		t.Fatalf("%s of %s: changed", show(v), show(list(docs...)))
	}
	if !apart(args, answers...) {
		t.Fatalf("%s of %s: shared", show(v), show(list(docs...)))
	}
	for _, x := range append(args, answers[:2]...) {
		wild(x)
	}
	got, _ := p.Run(docs, o.tell)
	if !slices.EqualFunc(got, answers[2].List, same) || !same(p.Filter(), answers[3]) {
		t.Fatalf("%s of %s: kept", show(v), show(list(docs...)))
	}
}

// TestMemory: what is handed in is neither changed nor kept, what is answered is new (P8.3).
func TestMemory(t *testing.T) {
	m := newMaker(5)
	for range 3000 {
		checkMemory(t, m.pipeline(), m.docs(), m.others())
	}
	docs := val(`[{"_id": {"k": [1]}, "l": [[1], {"k": [2]}, [], {}], "m": [], "d": {"k": [2], "e": {}}, "n": 5}, {"_id": {"k": [1]}, "l": [], "n": 6, "d": {}}]`).List
	o := others{"o": val(`[{"k": [[1], {"k": [2]}]}, {"k": 5}]`).List, "p": val(`[{"l": [[1], {"k": [2]}]}, {}]`).List}
	for _, s := range []string{
		`[]`, `[{"$match": {"n": {"$in": [5, 6, [1]]}, "$text": "x"}}]`, `[{"$project": {"l": 1, "d": 1}}]`, `[{"$project": {"n": 0}}]`, `[{"$project": {"x": ["$l", {"y": "$l"}], "y": "$$ROOT", "z": {"$literal": [[1]]}}}]`, `[{"$set": {"x": "$$ROOT", "y": "$$ROOT", "x.y": "$l", "l.9.k": {"$literal": {"k": [1]}}, "d.e.f": "$d"}}]`,
		`[{"$group": {"_id": "$_id", "a": {"$push": "$$ROOT"}, "b": {"$add": "$l"}, "c": {"$first": "$l"}, "d": {"$last": "$l"}, "e": {"$min": "$l"}, "f": {"$max": "$l"}, "g": {"$first": {"$literal": [[1]]}}, "h": {"$last": {"$literal": [[1]]}}}}]`, `[{"$sort": {"l": -1, "d": 1}}, {"$limit": 1}]`, `[{"$limit": 1}]`, `[{"$skip": 1}]`, `[{"$unwind": "l"}]`, `[{"$unwind": "l.0"}]`, `[{"$unwind": {"path": "l", "keep": true}}]`, `[{"$unwind": "n"}]`,
		`[{"$lookup": {"from": "o", "local": "l", "foreign": "k", "as": "m"}}]`, `[{"$lookup": {"from": "o", "local": "n", "foreign": "k", "as": "d.m"}}, {"$lookup": {"from": "p", "local": "l", "foreign": "l", "as": "l.7"}}]`, `[{"$union": "o"}, {"$union": "o"}, {"$union": "p"}]`, `[{"$count": "n"}]`, `[{"$replace": "$d"}]`, `[{"$replace": {"$literal": {"k": [[1]]}}}]`, `[{"$replace": "$$ROOT"}, {"$limit": 5}]`, `[{"$set": {"a.b": 1}}, {"$replace": "$n"}]`,
	} {
		checkMemory(t, val(s), docs, o)
	}
}

// TestNilAndEmpty: a nil list and an empty one are the same (W5).
func TestNilAndEmpty(t *testing.T) {
	bare := api.Value{Kind: api.KindList, List: []api.Value{}, Doc: []api.Field{}}
	blank := api.Value{Kind: api.KindDoc, List: []api.Value{}, Doc: []api.Field{}}
	wantParse(t, bare, api.OK)
	wantParse(t, list(blank), form)
	wantParse(t, single("$match", blank), api.OK)
	wantParse(t, single("$replace", blank), api.OK)
	for _, name := range []string{"$project", "$set", "$group", "$sort", "$unwind", "$lookup"} {
		wantParse(t, single(name, blank), form)
	}
	for _, docs := range [][]api.Value{nil, {}} {
		got, e := parse(t, bare).Run(docs, func(string) []api.Value { return docs })
		wantDocs(t, got, e, nil, api.OK)
		got, e = parse(t, single("$union", txt("x"))).Run([]api.Value{blank}, func(string) []api.Value { return docs })
		wantDocs(t, got, e, []api.Value{doc()}, api.OK)
		got, e = parse(t, single("$count", txt("n"))).Run(docs, nil)
		wantDocs(t, got, e, []api.Value{op("n", num(0))}, api.OK)
	}
	empty := api.Value{List: []api.Value{}, Doc: []api.Field{}}
	l := []api.Value{doc(of("a", num(1)), of("l", bare)), doc(of("a", num(1)), of("l", empty)), op("a", num(1))}
	wantRun(t, single("$unwind", txt("l")), l, nil, nil, api.OK)
	wantRun(t, val(`[{"$group": {"_id": "$a", "n": {"$sum": 1}}}]`), l, nil, val(`[{"_id": 1, "n": 3}]`).List, api.OK)
	wantRun(t, val(`[{"$unwind": {"path": "l", "keep": true}}]`), l[:1], nil, val(`[{"a": 1, "l": []}]`).List, api.OK)
	wantRun(t, val(`[{"$set": {"l.0": 1}}]`), l[:1], nil, val(`[{"a": 1, "l": [1]}]`).List, api.OK)
	wantRun(t, val(`[{"$sort": {"l": 1}}, {"$project": {"a": 1}}]`), l[1:], nil, val(`[{"a": 1}, {"a": 1}]`).List, api.OK)
	if f := parse(t, single("$match", blank)).Filter(); !same(f, doc()) {
		t.Error(show(f))
	}
}

// TestAtOnce: one pipeline runs several times at once (W2).
func TestAtOnce(t *testing.T) {
	p := parse(t, val(`[{"$match": {"a": {"$lt": 3}}}, {"$set": {"k.x": "$a", "k.y": "$$ROOT"}}, {"$lookup": {"from": "o", "local": "a", "foreign": "k", "as": "m"}}, {"$unwind": "m"}, {"$group": {"_id": "$a", "n": {"$sum": 1}, "q": {"$add": "$m"}, "f": {"$first": "$k"}}}, {"$sort": {"n": -1}}, {"$project": {"q": 1, "n": 1, "z": "$f.y"}}]`))
	o := stored()
	want, e := p.Run(example(), o.tell)
	if e != api.OK || len(want) != 2 {
		t.Fatal(want, e)
	}
	done := make(chan bool)
	for range 8 {
		go func() {
			ok := true
			for range 200 {
				got, e := p.Run(example(), o.tell)
				ok = ok && e == api.OK && slices.EqualFunc(got, want, same) && same(p.Filter(), val(`{"a": {"$lt": 3}}`))
			}
			done <- ok
		}()
	}
	for range 8 {
		if !<-done {
			t.Error("told otherwise")
		}
	}
}
