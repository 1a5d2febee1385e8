package pipe_test

import (
	"slices"
	"strconv"
	"strings"
	"testing"

	"coffret/api"
	"coffret/path"
	"coffret/pipe"
	"coffret/value"
)

// run is what a pipeline makes of documents, if it may be.
func run(t *testing.T, v api.Value, docs []api.Value, o others) ([]api.Value, api.Errno) {
	t.Helper()
	p, e := pipe.Parse(v)
	if e != api.OK {
		t.Fatalf("Parse of %s: %d", show(v), e)
	}
	return p.Run(docs, o.tell)
}

// mayBe is a pipeline that may be, without $text.
func (m maker) mayBe() api.Value {
	for {
		v := m.pipeline()
		if _, e := pipe.Parse(v); e == api.OK && !strings.Contains(show(v), "$text") {
			return v
		}
	}
}

// TestOneBehindAnother: Run of stages is Run of the first ones, and of the others on what came (P8.4).
func TestOneBehindAnother(t *testing.T) {
	m := newMaker(7)
	n := 0
	for range 12000 {
		a, b, docs, o := m.mayBe(), m.mayBe(), m.docs(), m.others()
		both, e := run(t, list(append(slices.Clone(a.List), b.List...)...), docs, o)
		first, e1 := run(t, a, docs, o)
		if e1 != api.OK {
			wantDocs(t, both, e, nil, e1, a, b, list(docs...))
			continue
		}
		then, e2 := run(t, b, first, o)
		wantDocs(t, both, e, then, e2, a, b, list(docs...))
		if t.Failed() {
			return
		}
		if e2 == api.OK && len(both) > 0 {
			n++
		}
		none, e := run(t, list(), docs, o)
		wantDocs(t, none, e, docs, api.OK)
	}
	if n < 3000 {
		t.Error("too few", n)
	}
}

// TestMatchTwice: $match twice is $match with $and of both (P8.5).
func TestMatchTwice(t *testing.T) {
	m := newMaker(11)
	n := 0
	for range 12000 {
		a, b, docs := value.Without(m.filter(), "$text"), value.Without(m.filter(), "$text"), m.docs()
		if _, e := pipe.Parse(list(op("$match", a), op("$match", b))); e != api.OK {
			continue
		}
		twice, e := run(t, list(op("$match", a), op("$match", b)), docs, nil)
		if e != api.OK {
			continue
		}
		once, e := run(t, single("$match", op("$and", list(a, b))), docs, nil)
		if e != api.OK {
			continue
		}
		wantDocs(t, twice, api.OK, once, e, a, b, list(docs...))
		if len(twice) > 0 {
			n++
		}
	}
	if n < 2000 {
		t.Error("too few", n)
	}
}

// TestPieces: $skip and $limit are so many documents from a place on (P8.5).
func TestPieces(t *testing.T) {
	m := newMaker(13)
	for range 3000 {
		docs, n, k := m.docs(), m.below(7), m.below(7)
		got, e := run(t, list(op("$skip", num(n)), op("$limit", num(k))), docs, nil)
		want, wantE := run(t, list(), docs, nil)
		if wantE == api.OK {
			want = want[min(n, len(want)):]
			want = want[:min(k, len(want))]
		}
		wantDocs(t, got, e, want, wantE, num(n), num(k), list(docs...))
	}
}

// TestSortTwice: $sort twice is $sort once; it keeps all documents, each as often as it was (P8.5).
func TestSortTwice(t *testing.T) {
	m := newMaker(17)
	n := 0
	for range 6000 {
		by, docs := op("$sort", m.takes("$sort")), m.docs()
		once, e := run(t, list(by), docs, nil)
		if e != api.OK {
			continue
		}
		twice, e := run(t, list(by, by), docs, nil)
		wantDocs(t, twice, e, once, api.OK, by, list(docs...))
		if !slices.EqualFunc(value.Sort(once), value.Sort(docs), func(a, b api.Value) bool { return value.Compare(a, b) == 0 }) {
			t.Fatalf("%s of %s", show(by), show(list(docs...)))
		}
		if !slices.EqualFunc(once, docs, same) {
			n++
		}
	}
	if n < 1000 {
		t.Error("too few", n)
	}
}

// TestCountOfUnwind: how many elements the lists at a path have in all (P8.5).
func TestCountOfUnwind(t *testing.T) {
	m := newMaker(19)
	n := 0
	for range 12000 {
		docs, way, want := m.docs(), m.way(), 0
		lists := !slices.ContainsFunc(docs, func(d api.Value) bool {
			v, _ := path.At(d, strings.Split(way, "."))
			want += len(v.List)
			return v.Kind != api.KindList || value.Right(d) != api.OK
		})
		if !lists {
			continue
		}
		got, e := run(t, list(op("$unwind", txt(way)), op("$count", txt("n"))), docs, nil)
		wantDocs(t, got, e, []api.Value{op("n", num(want))}, api.OK, txt(way), list(docs...))
		if want > 0 {
			n++
		}
	}
	if n < 300 {
		t.Error("too few", n)
	}
}

// TestSumOfOne: the $sum of 1 over all groups is how many documents there were (P8.6).
func TestSumOfOne(t *testing.T) {
	m := newMaker(23)
	n := 0
	for range 6000 {
		docs := m.docs()
		got, e := run(t, list(op("$group", doc(of("_id", m.expression(1)), of("n", op("$sum", num(1)))))), docs, nil)
		if e != api.OK {
			continue
		}
		sum := 0
		for i, d := range got {
			sum += d.Doc[1].Value.Int
			for _, other := range got[:i] {
				if value.Compare(d.Doc[0].Value, other.Doc[0].Value) == 0 {
					t.Fatalf("%s twice", show(d))
				}
			}
		}
		if sum != len(docs) {
			t.Fatalf("%s of %s", show(list(got...)), show(list(docs...)))
		}
		if len(got) > 1 {
			n++
		}
	}
	if n < 1000 {
		t.Error("too few", n)
	}
}

// TestAlways: what is told hangs on the pipeline, the documents and the others alone (W2).
func TestAlways(t *testing.T) {
	m := newMaker(29)
	for range 3000 {
		v, docs, o := m.mayBe(), m.docs(), m.others()
		p := parse(t, v)
		want, wantE := p.Run(docs, o.tell)
		p.Run(m.docs(), m.others().tell)
		p.Run(m.docs(), nil)
		for _, x := range []*pipe.Pipe{p, parse(t, value.Clone(v))} {
			got, e := x.Run(docs, o.tell)
			wantDocs(t, got, e, want, wantE, v, list(docs...))
		}
	}
}

// TestQuick: as many documents and bytes as there may be, within a short time.
func TestQuick(t *testing.T) {
	var docs, wide []api.Value
	for i := range api.MaxPipe {
		n := i * 1999 % api.MaxPipe
		docs = append(docs, doc(of("_id", num(i)), of("n", num(n)), of("l", list(num(n), num(n+api.MaxPipe), num(n+2*api.MaxPipe), null()))))
	}
	for range 60 {
		l := list()
		for i := range 3000 {
			l.List = append(l.List, num(i))
		}
		wide = append(wide, doc(of("a", num(1)), of("l", l)))
	}
	g := doc(of("_id", txt("$n")))
	for i := range 20 {
		g.Doc = append(g.Doc, of("f"+strconv.Itoa(i), op(pick(newMaker(i).dice, "$sum", "$max", "$push", "$add"), txt("$n"))))
	}
	o := others{"o": docs, "w": wide}
	for s, want := range map[string]int{
		`[{"$group": {"_id": "$n", "n": {"$sum": 1}}}]`:                                                                                          api.MaxPipe,
		`[{"$group": {"_id": null, "n": {"$add": "$n"}}}, {"$project": {"n": {"$size": "$n"}}}]`:                                                 -int(api.ErrBig),
		`[{"$sort": {"l": -1, "n": 1, "x": 1, "_id": -1}}]`:                                                                                      api.MaxPipe,
		`[{"$lookup": {"from": "o", "local": "n", "foreign": "n", "as": "m"}}, {"$project": {"m": {"$size": "$m"}}}, {"$match": {"m": 1}}]`:      api.MaxPipe,
		`[{"$lookup": {"from": "o", "local": "l.0", "foreign": "l", "as": "m"}}, {"$project": {"m": {"$size": "$m"}}}, {"$match": {"m": 1}}]`:    api.MaxPipe,
		`[{"$lookup": {"from": "o", "local": "z", "foreign": "l", "as": "m"}}]`:                                                                  -int(api.ErrBig),
		`[{"$lookup": {"from": "o", "local": "l", "foreign": "l", "as": "m"}}]`:                                                                  -int(api.ErrBig),
		`[{"$lookup": {"from": "w", "local": "n", "foreign": "l", "as": "m"}}]`:                                                                  -int(api.ErrBig),
		`[{"$match": {"n": {"$gte": 3000}}}, {"$lookup": {"from": "w", "local": "n", "foreign": "l", "as": "m"}}, {"$match": {"m": []}}]`:        2000,
		`[{"$limit": 0}, {"$union": "w"}, {"$lookup": {"from": "o", "local": "l", "foreign": "z", "as": "m"}}]`:                                  60,
		`[{"$limit": 0}, {"$union": "w"}, {"$unwind": "l"}]`:                                                                                     -int(api.ErrPipeMany),
		`[{"$limit": 0}, {"$union": "w"}, {"$limit": 1}, {"$unwind": "l"}, {"$group": {"_id": "$l", "a": {"$add": "$a"}}}]`:                      3000,
		`[{"$limit": 0}, {"$union": "w"}, {"$set": {"l.2000": 1, "l.2001": 1, "l.2002.x": 1}}, {"$match": {"l": {"$size": 3000}}}]`:              -int(api.ErrBlocked),
		`[{"$limit": 0}, {"$union": "w"}, {"$sort": {"l": -1, "a": 1}}, {"$group": {"_id": "$l", "n": {"$max": "$l"}}}, {"$project": {"n": 1}}]`: -int(api.ErrPipeMany),
	} {
		got, e := run(t, val(s), docs, o)
		if e == api.OK && len(got) != want || e != api.OK && int(e) != -want {
			t.Errorf("%s: %d %d, want %d", s, len(got), e, want)
		}
	}
	if got, e := run(t, single("$group", g), docs, o); e != api.OK || len(got) != api.MaxPipe {
		t.Error(len(got), e)
	}
	set := doc()
	for i := range api.MaxConds {
		set.Doc = append(set.Doc, of("l."+strconv.Itoa(3*i), txt("$a")))
	}
	if got, e := run(t, single("$set", set), wide, o); e != api.OK || len(got) != 60 || got[59].Doc[1].Value.List[297].Int != 1 {
		t.Error(len(got), e)
	}
}
