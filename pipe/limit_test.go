package pipe_test

import (
	"slices"
	"strconv"
	"strings"
	"testing"

	"coffret/api"
	"coffret/value"
)

// atAndPast runs a test with what is just not too much, and with what is.
func atAndPast(limit int, told api.Errno, test func(n int, want api.Errno)) {
	test(limit-1, api.OK)
	test(limit, api.OK)
	test(limit+1, told)
}

// wantTold: a pipeline tells that of documents, be what it makes of them as it is.
func wantTold(t *testing.T, p string, docs []api.Value, o others, want api.Errno) {
	t.Helper()
	got, e := parse(t, val("["+p+"]")).Run(docs, o.tell)
	if e != want || e != api.OK && got != nil {
		t.Errorf("%s: %d, want %d", p, e, want)
	}
}

// nulls is a document with a list of so many nulls at l, and these fields ahead.
func nulls(n int, ahead ...api.Field) api.Value {
	return doc(append(ahead, of("l", list(many(null(), n)...)))...)
}

// TestManyDocs: of docs, and behind and within each stage, at most MaxPipe documents (P8.2).
func TestManyDocs(t *testing.T) {
	atAndPast(api.MaxPipe, api.ErrPipeMany, func(n int, want api.Errno) {
		l := many(doc(), n)
		for _, s := range []string{``, `{"$limit": 1}`, `{"$match": {"a": 1}}`, `{"$skip": 4990}`, `{"$sort": {"a": 1}}`, `{"$project": {"a": 1}}`, `{"$group": {"_id": null}}`, `{"$count": "n"}`} {
			wantTold(t, s, l, nil, want)
		}
		wantTold(t, `{"$unwind": "l"}`, []api.Value{nulls(n)}, nil, want)
		wantTold(t, `{"$unwind": "l"}, {"$limit": 1}`, []api.Value{nulls(n - 10), nulls(10), nulls(0)}, nil, want)
		wantTold(t, `{"$unwind": {"path": "l", "keep": true}}`, []api.Value{nulls(n - 11), nulls(10), nulls(0)}, nil, want)
		wantTold(t, `{"$union": "o"}`, nil, others{"o": l}, want)
		wantTold(t, `{"$union": "o"}, {"$limit": 1}`, l[10:], others{"o": l[:10]}, want)
		wantTold(t, `{"$lookup": {"from": "o", "local": "a", "foreign": "a", "as": "m"}}`, []api.Value{op("a", num(1))}, others{"o": l}, want)
	})
	wantTold(t, `{"$limit": 1}`, append(many(doc(), api.MaxPipe+1), num(1)), nil, api.ErrPipeKind)
	wantTold(t, `{"$union": "o"}`, nil, others{"o": append(many(doc(), api.MaxPipe+1), num(1))}, api.ErrPipeKind)
	wantTold(t, `{"$union": "o"}`, many(doc(), 3), others{"o": append(many(doc(), api.MaxPipe), num(1))}, api.ErrPipeKind)
	wantTold(t, `{"$limit": 0}, {"$union": "o"}`, many(doc(), 3), others{"o": many(doc(), api.MaxPipe)}, api.OK)
}

// TestManyBytes: of docs, and behind and within each stage, at most MaxHeap bytes (P8.2).
func TestManyBytes(t *testing.T) {
	const part = 1 << 15
	atAndPast(api.MaxHeap/part, api.ErrPipeMany, func(n int, want api.Errno) {
		l := many(filled(part), n)
		small := many(doc(), n)
		text := strings.Repeat("x", part-13)
		for _, s := range []string{``, `{"$limit": 1}`, `{"$match": {"a": 1}}`, `{"$sort": {"b": 1}}`, `{"$project": {"b": 1}}`, `{"$group": {"_id": null}}`, `{"$count": "n"}`} {
			wantTold(t, s, l, nil, want)
		}
		wantTold(t, `{"$project": {"_id": 0, "a": "`+text+`"}}`, small, nil, want)
		wantTold(t, `{"$set": {"a": "`+text+`"}}`, small, nil, want)
		wantTold(t, `{"$replace": {"a": "`+text+`"}}`, small, nil, want)
		wantTold(t, `{"$unwind": "l"}`, []api.Value{nulls(n, of("a", sized(part-11)))}, nil, want)
		wantTold(t, `{"$unwind": "l"}`, []api.Value{nulls(n-100, of("a", sized(part-11))), nulls(100, of("a", sized(part-11)))}, nil, want)
		wantTold(t, `{"$lookup": {"from": "o", "local": "z", "foreign": "z", "as": "m"}}`, small, others{"o": []api.Value{filled(part - 16)}}, want)
		wantTold(t, `{"$union": "o"}`, nil, others{"o": l}, want)
		wantTold(t, `{"$union": "o"}`, l[10:], others{"o": l[:10]}, want)
		wantTold(t, `{"$lookup": {"from": "o", "local": "z", "foreign": "a", "as": "m"}}`, []api.Value{doc()}, others{"o": l}, want)
		wantTold(t, `{"$limit": 1}, {"$union": "o"}, {"$count": "n"}`, l[:len(l)-1], others{"o": l[1:]}, want)
	})
	l := many(filled(part), api.MaxHeap/part)
	wantTold(t, ``, append(l[1:], filled(part-5), doc()), nil, api.OK)
	wantTold(t, ``, append(l[1:], filled(part-4), doc()), nil, api.ErrPipeMany)
	wantTold(t, ``, append(many(filled(3*api.MaxDoc), 63), filled(api.MaxDoc-63)), nil, api.OK) // more than MaxDoc counts as one more
	wantTold(t, ``, append(many(filled(3*api.MaxDoc), 63), filled(api.MaxDoc-62)), nil, api.ErrPipeMany)
	wantTold(t, `{"$limit": 1}`, append(l, doc(), num(1)), nil, api.ErrPipeKind)
}

// TestManyGroups: of $group in the end, and, as soon as they are worked out, of what the expressions came to (P8.2).
func TestManyGroups(t *testing.T) {
	const each = 1 << 11 // bytes of a group's document
	g := doc(of("_id", txt("$n")))
	for i := range 18 {
		g.Doc = append(g.Doc, of("n"+strconv.Itoa(10+i)+strings.Repeat("x", api.MaxName-3), op("$sum", num(1))))
	}
	g.Doc = append(g.Doc, of(strings.Repeat("y", 40), op("$sum", num(1))))
	atAndPast(api.MaxHeap/each, api.ErrPipeMany, func(n int, want api.Errno) {
		var docs []api.Value
		for i := range n {
			docs = append(docs, op("n", num(i)))
		}
		got, e := parse(t, single("$group", g)).Run(docs, nil)
		if e != want || e == api.OK && (len(got) != n || value.Size(got[0]) != each) {
			t.Error(len(got), e)
		}
		got, e = parse(t, single("$group", g)).Run(append(docs, docs...), nil)
		if e != want || e == api.OK && len(got) != n {
			t.Error(len(got), e)
		}
	})
	const half = 1 << 14
	twice := `{"$group": {"_id": null, "x": {"$min": "$a"}, "y": {"$max": "$a"}, "z": {"$sum": "$z"}}}`
	atAndPast(api.MaxHeap/half/2, api.ErrPipeMany, func(n int, want api.Errno) {
		l := many(op("a", sized(half)), n)
		wantTold(t, twice, l, nil, want)
		wantTold(t, `{"$group": {"_id": "$a", "y": {"$first": "$a"}}}`, l, nil, want)
		wantTold(t, `{"$group": {"_id": "$a", "y": {"$last": "$a"}}}`, l, nil, want)
		wantTold(t, twice+`, {"$set": {"z": {"$add": ["$x", 1]}}}`, l, nil, max(want, api.ErrExprKind))
	})
	l := many(op("a", sized(half)), api.MaxHeap/half/2)
	wantTold(t, twice, append(slices.Clone(l), op("z", null())), nil, api.OK)
	wantTold(t, twice, append(slices.Clone(l), op("z", num(1))), nil, api.ErrPipeMany)
	wantTold(t, twice, append(slices.Clone(l), op("z", txt("x"))), nil, api.ErrPipeMany)
	wantTold(t, twice, append(l[:len(l)-1:len(l)-1], op("z", txt("x"))), nil, api.ErrPipeKind)
	wantTold(t, `{"$group": {"_id": 1, "x": {"$min": "$a"}, "y": {"$max": "$a"}, "z": {"$sum": "$a"}}}`, l, nil, api.ErrPipeKind)
	wantTold(t, `{"$group": {"_id": "$z", "x": {"$min": "$a"}, "y": {"$max": "$a"}, "z": {"$sum": {"$divide": [1, "$z"]}}}}`, append(slices.Clone(l), op("z", num(0))), nil, api.ErrPipeMany)
	wantTold(t, `{"$group": {"_id": null, "x": {"$min": "$a"}, "y": {"$max": "$a"}, "z": {"$sum": {"$divide": [1, "$z"]}}}}`, append(slices.Clone(l), op("z", num(0))), nil, api.ErrExprZero)
	wantTold(t, twice+`, {"$unwind": "none"}, {"$union": "o"}, `+twice, l, others{"o": l}, api.OK) // each stage anew
}

// TestBig: a document that a stage makes has at most MaxDoc bytes (P8.2).
func TestBig(t *testing.T) {
	atAndPast(api.MaxDoc, api.ErrBig, func(n int, want api.Errno) {
		l := []api.Value{filled(n - 11)}
		wantTold(t, `{"$project": {"a": 1, "b": 1, "c": 5}}`, l, nil, want)
		wantTold(t, `{"$set": {"b": 5}}`, l, nil, want)
		wantTold(t, `{"$set": {"b": 5}}, {"$limit": 0}`, append(l, num(0))[:1], nil, want)
		wantTold(t, `{"$unwind": "l"}`, []api.Value{filled(n+3+2*2, of("l", list(null(), null())))}, nil, api.OK)
		wantTold(t, `{"$unwind": "l"}`, []api.Value{filled(n+8, of("l", list(num(1))))}, nil, want)
		wantTold(t, `{"$lookup": {"from": "o", "local": "z", "foreign": "z", "as": "m"}}`, []api.Value{doc()}, others{"o": []api.Value{filled(n - 16)}}, want)
		wantTold(t, `{"$group": {"_id": null, "x": {"$push": "$a"}}}`, []api.Value{op("a", sized(n-1016)), op("a", sized(992))}, nil, want)
		wantTold(t, `{"$group": {"_id": null, "x": {"$add": "$a"}}}`, []api.Value{op("a", sized(n-1016)), op("a", sized(992)), op("a", sized(992))}, nil, want)
		wantTold(t, `{"$group": {"_id": "$a", "x": {"$sum": 1}}}`, []api.Value{op("a", sized(n-5-5-11))}, nil, want)
		wantTold(t, `{"$union": "o"}`, nil, others{"o": []api.Value{filled(n)}}, want)
		wantTold(t, `{"$union": "o"}`, []api.Value{filled(n)}, nil, want)
		wantTold(t, `{"$unwind": {"path": "z", "keep": true}}`, []api.Value{filled(n)}, nil, want)
		wantTold(t, `{"$unwind": "a"}`, []api.Value{filled(n)}, nil, want)
		wantTold(t, `{"$limit": 1}, {"$skip": 0}, {"$match": {}}, {"$sort": {"b": 1}}`, []api.Value{filled(n)}, nil, api.OK)
		wantTold(t, `{"$unwind": "z"}`, []api.Value{filled(n)}, nil, api.OK)
	})
	wantTold(t, `{"$set": {"b": 1, "a": 1}}`, []api.Value{filled(api.MaxDoc)}, nil, api.OK) // asked once all is put
	wantTold(t, `{"$replace": {"b": "$a", "c": 1}}`, []api.Value{filled(api.MaxDoc)}, nil, api.ErrBig)
}

// TestDeepMade: a document that a stage makes is at most MaxDepth deep (P8.2).
func TestDeepMade(t *testing.T) {
	v := doc()
	for range api.MaxDepth - 2 {
		v = op("a", v)
	}
	for range 2 {
		want := api.OK
		if value.Right(op("b", v)) != api.OK {
			want = api.ErrValueDeep
		}
		wantTold(t, `{"$set": {"b": "$$ROOT"}}`, []api.Value{v}, nil, want)
		wantTold(t, `{"$project": {"b": "$$ROOT"}}`, []api.Value{v}, nil, want)
		wantTold(t, `{"$replace": {"b": "$$ROOT"}}`, []api.Value{v}, nil, want)
		wantTold(t, `{"$group": {"_id": "$$ROOT"}}`, []api.Value{v}, nil, want)
		wantTold(t, `{"$group": {"_id": 1, "b": {"$first": "$$ROOT"}}}`, []api.Value{v}, nil, want)
		wantTold(t, `{"$unwind": "l"}`, []api.Value{doc(of("b", v), of("l", list(num(1))))}, nil, want)
		wantTold(t, `{"$union": "o"}`, nil, others{"o": []api.Value{op("b", v)}}, want)
		v = op("a", v)
	}
	v = v.Doc[0].Value.Doc[0].Value.Doc[0].Value
	wantTold(t, `{"$lookup": {"from": "o", "local": "z", "foreign": "z", "as": "m"}}`, []api.Value{doc()}, others{"o": []api.Value{v}}, api.OK)
	wantTold(t, `{"$lookup": {"from": "o", "local": "z", "foreign": "z", "as": "m.n"}}`, []api.Value{doc()}, others{"o": []api.Value{v}}, api.ErrValueDeep)
	wantTold(t, `{"$group": {"_id": 1, "b": {"$push": "$$ROOT"}}}`, []api.Value{v}, nil, api.OK)
	wantTold(t, `{"$group": {"_id": 1, "b": {"$push": {"a": "$$ROOT"}}}}`, []api.Value{v}, nil, api.ErrValueDeep)
}

// TestWrongDocs: documents that may not be are told where a stage makes something of them, not where it does not (P8.2).
func TestWrongDocs(t *testing.T) {
	for e, d := range map[api.Errno]api.Value{
		api.ErrValueKind: doc(of("a", num(1)), of("w", api.Value{Kind: 99})),
		api.ErrValueName: doc(of("a", num(1)), of("w", null()), of("w", null())),
		api.ErrBig:       doc(of("a", num(1)), of("w", sized(api.MaxDoc))),
	} {
		for s, want := range map[string]api.Errno{
			``: api.OK, `{"$match": {"a": 1}}`: api.OK, `{"$sort": {"a": 1}}`: api.OK, `{"$limit": 5}`: api.OK, `{"$skip": 0}`: api.OK, `{"$count": "n"}`: api.OK, `{"$limit": 0}, {"$union": "z"}`: api.OK,
			`{"$project": {"a": 1}}`: api.OK, `{"$project": {"w": 1}}`: e, `{"$project": {"a": 0}}`: e, `{"$project": {"w": 0}}`: api.OK, `{"$set": {"b": 1}}`: e, `{"$unwind": "a"}`: e, `{"$unwind": "z"}`: api.OK, `{"$unwind": {"path": "z", "keep": true}}`: e, `{"$union": "z"}`: e, `{"$replace": {"a": "$a"}}`: api.OK, `{"$group": {"_id": "$a"}}`: api.OK, `{"$group": {"_id": 1, "n": {"$sum": "$a"}}}`: api.OK, `{"$lookup": {"from": "z", "local": "a", "foreign": "a", "as": "m"}}`: e,
		} {
			wantTold(t, s, []api.Value{op("a", num(1)), d}, nil, want)
		}
		o := others{"o": []api.Value{d}}
		wantTold(t, `{"$union": "o"}`, nil, o, e)
		wantTold(t, `{"$lookup": {"from": "o", "local": "a", "foreign": "a", "as": "m"}}`, []api.Value{op("a", num(1))}, o, e)
		wantTold(t, `{"$lookup": {"from": "o", "local": "a", "foreign": "a", "as": "m"}}`, []api.Value{op("a", num(2))}, o, api.OK)
	}
	got, e := parse(t, val(`[{"$sort": {"a": 1}}, {"$project": {"n": 1}}]`)).Run([]api.Value{doc(of("n", num(1)), of("a", null())), doc(of("n", num(2)), of("a", list(api.Value{}))), doc(of("n", num(3)), of("a", api.Value{}))}, nil)
	wantDocs(t, got, e, []api.Value{op("n", num(1)), op("n", num(2)), op("n", num(3))}, api.OK) // a missing element counts as null, too
	wrong := api.Value{Kind: 99}
	row := func(n int, v api.Value) []api.Value { return []api.Value{op("l", list(append(many(null(), n), v)...))} }
	wantTold(t, `{"$unwind": "l"}`, row(api.MaxPipe-1, null()), nil, api.OK)
	wantTold(t, `{"$unwind": "l"}`, row(api.MaxPipe-1, wrong), nil, api.ErrValueKind)
	wantTold(t, `{"$unwind": "l"}`, row(api.MaxPipe, wrong), nil, api.ErrValueKind)
	wantTold(t, `{"$unwind": "l"}`, row(api.MaxPipe, null()), nil, api.ErrPipeMany)
	wantTold(t, `{"$unwind": "l"}`, row(api.MaxPipe+1, wrong), nil, api.ErrPipeMany)
	wantTold(t, `{"$group": {"_id": "$a", "n": {"$push": "$b"}}}`, []api.Value{op("a", wrong), op("b", wrong)}, nil, api.ErrValueKind)
}

// TestReachEnds: a path shows no more than it leads to, but all elements of a list among that.
func TestReachEnds(t *testing.T) {
	x := list(many(op("k", num(5)), api.MaxReach-1)...)
	more := list(append(x.List[:len(x.List):len(x.List)], op("k", num(5)), op("k", num(1)))...)
	less := list(append(x.List[:len(x.List):len(x.List)], op("k", num(1)), op("k", num(5)))...)
	long := list(append(many(num(5), 2*api.MaxReach), num(1))...)
	other := doc(of("n", num(2)), of("x", op("k", num(3))))
	for _, c := range []struct {
		x    api.Value
		want int
	}{{more, 2}, {less, 1}, {op("k", long), 1}} {
		got, e := parse(t, val(`[{"$sort": {"x.k": 1}}, {"$limit": 1}, {"$project": {"n": 1}}]`)).Run([]api.Value{doc(of("n", num(1)), of("x", c.x)), other}, nil)
		wantDocs(t, got, e, []api.Value{op("n", num(c.want))}, api.OK)
	}
}

// TestDeep: documents of any depth.
func TestDeep(t *testing.T) {
	v, w := num(1), num(1)
	for range 1 << 16 {
		v, w = op("a", v), list(w)
	}
	d := []api.Value{doc(of("a", v), of("l", w)), doc(of("a", v), of("l", w))}
	for _, s := range []string{``, `{"$match": {"a.a.a": {"$exists": true}}}`, `{"$sort": {"a.a": 1, "l.0.0": -1}}`, `{"$group": {"_id": 1, "n": {"$sum": 1}}}`, `{"$count": "n"}`, `{"$group": {"_id": "$z", "n": {"$max": {"$size": "$l"}}}}`} {
		wantTold(t, s, d, nil, api.OK)
	}
	for _, s := range []string{`{"$project": {"a": 1}}`, `{"$set": {"a.a.b": 1}}`, `{"$set": {"l.0.0.0": {}, "a.a": "$a"}}`, `{"$unwind": "a"}`, `{"$unwind": "l.0.0"}`, `{"$group": {"_id": "$a"}}`, `{"$lookup": {"from": "z", "local": "a", "foreign": "a", "as": "m"}}`, `{"$union": "z"}`, `{"$replace": "$a"}`} {
		got, e := parse(t, val("["+s+"]")).Run(d, nil)
		if e != api.ErrBig && e != api.ErrValueDeep || got != nil {
			t.Error(s, e)
		}
	}
	for _, x := range []api.Value{v, w} {
		if p, e := parse(t, list()), value.Right(x); e == api.OK || p == nil {
			t.Error(e)
		}
		wantTold(t, ``, []api.Value{op("a", x)}, nil, api.OK)
	}
}
