package pipe_test

import (
	"testing"

	"coffret/api"
	"coffret/pipe"
)

const d3 = `{"a": 1, "l": [5, 6]}, {"a": 2, "l": []}, {"a": 1, "b": "x"}`

// TestExamples are those of the chapter.
func TestExamples(t *testing.T) {
	wantRows(t, []row{
		{d3, `{"$match": {"a": 1}}, {"$count": "n"}`, `{"n": 2}`, 0},
		{d3, `{"$group": {"_id": "$a", "n": {"$sum": 1}, "f": {"$first": "$b"}}}`, `{"_id": 1, "n": 2, "f": null}, {"_id": 2, "n": 1, "f": null}`, 0},
		{d3, `{"$unwind": "l"}`, `{"a": 1, "l": 5}, {"a": 1, "l": 6}`, 0},
		{d3, `{"$unwind": {"path": "l", "keep": true}}, {"$project": {"l": 1}}`, `{"l": 5}, {"l": 6}, {"l": []}, {}`, 0},
		{d3, `{"$sort": {"a": -1, "l": 1}}, {"$project": {"a": 1, "n": {"$size": "$l"}}}`, `{"a": 2, "n": 0}, {"a": 1, "n": null}, {"a": 1, "n": 2}`, 0},
		{d3, `{"$set": {"k.x": "$a"}}, {"$limit": 1}, {"$replace": "$k"}`, `{"x": 1}`, 0},
		{d3, `{"$lookup": {"from": "o", "local": "a", "foreign": "k", "as": "m"}}, {"$project": {"m": 1}}`, `{"m": [{"k": [1, 3]}]}, {"m": [{"k": 2}]}, {"m": [{"k": [1, 3]}]}`, 0},
		{d3, ``, d3, 0},
		{``, ``, ``, 0},
		{`{"_id": 1, "a": 2, "l": [1, 5]}, {"_id": 2, "a": 1}`, `{"$unwind": "l"}, {"$group": {"_id": null, "s": {"$sum": "$l"}}}`, `{"_id": null, "s": 6}`, 0},
	})
}

// TestMatch: the documents that are meant, asked one after another (chapter 6).
func TestMatch(t *testing.T) {
	wantRows(t, []row{
		{d3, `{"$match": {}}`, d3, 0},
		{d3, `{"$match": {"l": {"$gt": 5}}}`, `{"a": 1, "l": [5, 6]}`, 0},
		{d3, `{"$match": {"b": null}}, {"$match": {"a": 2}}`, `{"a": 2, "l": []}`, 0},
		{d3, `{"$match": {"a": 7}}`, ``, 0},
		{d3, `{"$match": {"$text": "any"}}`, d3, 0},
		{d3, `{"$match": {"$expr": {"$eq": ["$a", 2]}}}`, `{"a": 2, "l": []}`, 0},
		{d3, `{"$match": {"$expr": {"$divide": [1, {"$subtract": ["$a", 2]}]}}}`, ``, api.ErrExprZero},
		{d3, `{"$match": {"$expr": {"$size": "$l"}}}`, `{"a": 1, "l": [5, 6]}`, 0},
		{d3, `{"$match": {"$expr": {"$add": ["$b", 1]}}}`, ``, api.ErrExprKind},
		{d3, `{"$set": {"b": {"$add": ["$b", 1]}}}`, ``, api.ErrExprKind},
	})
}

// TestProject: with 1 what a document has, in its own order, then expressions; else all but what is named.
func TestProject(t *testing.T) {
	d := `{"c": 3, "_id": 7, "a": {"x": 1}, "b": null}`
	wantRows(t, []row{
		{d, `{"$project": {"a": 1}}`, `{"_id": 7, "a": {"x": 1}}`, 0},
		{d, `{"$project": {"b": 1, "a": 1, "c": 1, "z": 1}}`, `{"c": 3, "_id": 7, "a": {"x": 1}, "b": null}`, 0},
		{d, `{"$project": {"a": 1, "_id": 1}}`, `{"_id": 7, "a": {"x": 1}}`, 0},
		{d, `{"$project": {"_id": 0, "a": 1}}`, `{"a": {"x": 1}}`, 0},
		{d, `{"$project": {"a": 1, "c": 0}}`, `{"_id": 7, "a": {"x": 1}}`, 0},
		{d, `{"$project": {"z": 1}}`, `{"_id": 7}`, 0},
		{d, `{"$project": {"z": 1, "_id": 0}}`, `{}`, 0},
		{d, `{"$project": {"a": 0}}`, `{"c": 3, "_id": 7, "b": null}`, 0},
		{d, `{"$project": {"a": 0, "z": 0, "c": 0}}`, `{"_id": 7, "b": null}`, 0},
		{d, `{"$project": {"_id": 0}}`, `{"c": 3, "a": {"x": 1}, "b": null}`, 0},
		{d, `{"$project": {"_id": 1}}`, d, 0},
		{d, `{"$project": {"_id": 1, "a": 0}}`, `{"c": 3, "_id": 7, "b": null}`, 0},
		{d, `{"$project": {"_id": "$c"}}`, d, 0},
		{d, `{"$project": {"_id": {"$divide": [1, 0]}, "a": 0}}`, `{"c": 3, "_id": 7, "b": null}`, 0},
		{d, `{"$project": {"_id": "$c", "a": 1}}`, `{"a": {"x": 1}, "_id": 3}`, 0},
		{d, `{"$project": {"_id": "$z", "a": 1}}`, `{"a": {"x": 1}}`, 0},
		{d, `{"$project": {"n": "$a.x", "a": 1, "m": "$z", "k": 2, "b": "$c"}}`, `{"_id": 7, "a": {"x": 1}, "n": 1, "k": 2, "b": 3}`, 0},
		{d, `{"$project": {"_id": 0, "n": true}}`, `{"n": true}`, 0},
		{d, `{"$project": {"_id": 0, "n": {"$literal": 1}, "m": {"$literal": 0}, "o": -1, "p": "1"}}`, `{"n": 1, "m": 0, "o": -1, "p": "1"}`, 0},
		{d, `{"$project": {"_id": 0, "k": {"a": "$c", "z": "$z"}, "l": ["$c", "$z"]}}`, `{"k": {"a": 3}, "l": [3, null]}`, 0},
		{d, `{"$project": {"a": 1, "n": {"$divide": [1, 0]}}}`, ``, api.ErrExprZero},
		{d, `{"$project": {"n": {"$divide": [1, 0]}, "m": {"$size": 1}}}`, ``, api.ErrExprZero},
		{d, `{"$project": {"m": {"$size": 1}, "n": {"$divide": [1, 0]}}}`, ``, api.ErrExprKind},
		{`{"a": 1}`, `{"$project": {"b": 1}}`, `{}`, 0},
		{`{"a": 1, "0": 2}`, `{"$project": {"0": 1}}`, `{"0": 2}`, 0},
	})
}

// TestSet: all expressions of a document ahead of what is put at their paths, one after another.
func TestSet(t *testing.T) {
	wantRows(t, []row{
		{d3, `{"$set": {"a": 5}}`, `{"a": 5, "l": [5, 6]}, {"a": 5, "l": []}, {"a": 5, "b": "x"}`, 0},
		{`{"a": 1, "b": 2}`, `{"$set": {"a": "$b", "b": "$a", "c": "$a"}}`, `{"a": 2, "b": 1, "c": 1}`, 0},
		{`{"a": 1, "b": 2}`, `{"$set": {"a": "$z", "z": "$b", "y": null}}`, `{"a": 1, "b": 2, "z": 2, "y": null}`, 0},
		{`{"a": 1}`, `{"$set": {"k": {"x": "$a"}, "k.y": "$a", "k.x": 7}}`, `{"a": 1, "k": {"x": 7, "y": 1}}`, 0},
		{`{"a": 1}`, `{"$set": {"k": "$$ROOT", "k.a": 2, "m": "$$ROOT"}}`, `{"a": 1, "k": {"a": 2}, "m": {"a": 1}}`, 0},
		{`{"l": [1, {"x": 1}]}`, `{"$set": {"l.0": 2, "l.1.x": 3, "l.1.y.z": 4, "l.3": 5, "l.5.x": 6}}`, `{"l": [2, {"x": 3, "y": {"z": 4}}, null, 5, null, {"x": 6}]}`, 0},
		{`{"a": {"b": {}}}`, `{"$set": {"a.b.c": 1, "a.b.d.e": 2, "a.0": 3}}`, `{"a": {"b": {"c": 1, "d": {"e": 2}}, "0": 3}}`, 0},
		{`{"a": 1}`, `{"$set": {"a.b": 1}}`, ``, api.ErrBlocked},
		{`{"a": null}`, `{"$set": {"a.b": 1}}`, ``, api.ErrBlocked},
		{`{"l": []}`, `{"$set": {"l.x": 1}}`, ``, api.ErrBlocked},
		{`{"l": []}`, `{"$set": {"l.00": 1}}`, ``, api.ErrBlocked},
		{`{"l": []}`, `{"$set": {"l.-1": 1}}`, ``, api.ErrBlocked},
		{`{"l": []}`, `{"$set": {"l.+1": 1}}`, ``, api.ErrBlocked},
		{`{"l": []}`, `{"$set": {"l.100": 1}}`, ``, api.ErrPad},
		{`{"l": []}`, `{"$set": {"l.999999999": 1}}`, ``, api.ErrPad},
		{`{"l": []}`, `{"$set": {"l.1000000000": 1}}`, ``, api.ErrBlocked},
		{`{"l": []}`, `{"$set": {"l.99999999999999999999": 1}}`, ``, api.ErrBlocked},
		{`{"l": []}`, `{"$set": {"l.99": 1}}, {"$project": {"n": {"$size": "$l"}, "m": {"$at": ["$l", 98]}}}`, `{"n": 100, "m": null}`, 0},
		{`{"l": [1]}`, `{"$set": {"l.100": 1}}, {"$project": {"n": {"$size": "$l"}}}`, `{"n": 101}`, 0},
		{`{"a": 1}`, `{"$set": {"a.b": 1, "n": {"$divide": [1, 0]}}}`, ``, api.ErrExprZero},
		{`{"a": 1}`, `{"$set": {"n": {"$divide": [1, 0]}, "m": {"$size": 1}}}`, ``, api.ErrExprZero},
		{`{"a": 1}, {"a": 0}`, `{"$set": {"n": {"$divide": [1, "$a"]}}}`, ``, api.ErrExprZero},
		{`{"a": 1}`, `{"$set": {"a.b": "$z"}}`, `{"a": 1}`, 0},
	})
}

// TestReplace: what the expression comes to of each document, which must be one.
func TestReplace(t *testing.T) {
	wantRows(t, []row{
		{d3, `{"$replace": {"n": "$a", "m": "$b"}}`, `{"n": 1}, {"n": 2}, {"n": 1, "m": "x"}`, 0},
		{d3, `{"$replace": "$$ROOT"}`, d3, 0},
		{d3, `{"$replace": {}}`, `{}, {}, {}`, 0},
		{`{"a": {"b": 1}}, {"a": {}}`, `{"$replace": "$a"}`, `{"b": 1}, {}`, 0},
		{`{"a": {"b": 1}}, {"a": 1}`, `{"$replace": "$a"}`, ``, api.ErrPipeKind},
		{`{"a": {"b": 1}}, {}`, `{"$replace": "$a"}`, ``, api.ErrPipeKind},
		{`{"a": [{}]}`, `{"$replace": "$a"}`, ``, api.ErrPipeKind},
		{`{}`, `{"$replace": {"$divide": [1, 0]}}`, ``, api.ErrExprZero},
		{`{"a": {"b": 1}}`, `{"$replace": {"$merge": ["$a", {"c": 2}]}}`, `{"b": 1, "c": 2}`, 0},
		{``, `{"$replace": 5}`, ``, 0},
	})
	for _, v := range kinds() {
		want, e := []api.Value{v}, api.OK
		if v.Kind != api.KindDoc {
			want, e = nil, api.ErrPipeKind
		}
		wantRun(t, single("$replace", op("$literal", v)), []api.Value{doc()}, nil, want, e)
	}
}

// TestLimitSkip: so many first ones; all but so many first ones.
func TestLimitSkip(t *testing.T) {
	wantRows(t, []row{
		{d3, `{"$limit": 0}`, ``, 0},
		{d3, `{"$limit": 1}`, `{"a": 1, "l": [5, 6]}`, 0},
		{d3, `{"$limit": 3}`, d3, 0},
		{d3, `{"$limit": 9223372036854775807}`, d3, 0},
		{d3, `{"$skip": 0}`, d3, 0},
		{d3, `{"$skip": 2}`, `{"a": 1, "b": "x"}`, 0},
		{d3, `{"$skip": 3}`, ``, 0},
		{d3, `{"$skip": 9223372036854775807}`, ``, 0},
		{d3, `{"$skip": 1}, {"$limit": 1}`, `{"a": 2, "l": []}`, 0},
		{d3, `{"$limit": 1}, {"$skip": 1}`, ``, 0},
		{``, `{"$limit": 1}, {"$skip": 1}`, ``, 0},
	})
}

// TestCount: one document, how many documents there be.
func TestCount(t *testing.T) {
	wantRows(t, []row{
		{d3, `{"$count": "n"}`, `{"n": 3}`, 0},
		{``, `{"$count": "n"}`, `{"n": 0}`, 0},
		{d3, `{"$count": "_id"}, {"$count": "0"}`, `{"0": 1}`, 0},
		{d3, `{"$limit": 0}, {"$count": "x y"}`, `{"x y": 0}`, 0},
	})
}

// TestSort: by what a path shows first, of -1 last, those alike as they came.
func TestSort(t *testing.T) {
	l := `{"n": 1, "a": 3}, {"n": 2, "a": [1, 9]}, {"n": 3}, {"n": 4, "a": "x"}, {"n": 5, "a": null}, {"n": 6, "a": []}, {"n": 7, "a": [3, [0]]}, {"n": 8, "a": {"b": 1}}`
	n := `{"$project": {"n": 1}}`
	wantRows(t, []row{
		{l, `{"$sort": {"a": 1}}, ` + n, `{"n": 3}, {"n": 5}, {"n": 2}, {"n": 1}, {"n": 7}, {"n": 4}, {"n": 8}, {"n": 6}`, 0},
		{l, `{"$sort": {"a": -1}}, ` + n, `{"n": 7}, {"n": 2}, {"n": 6}, {"n": 8}, {"n": 4}, {"n": 1}, {"n": 3}, {"n": 5}`, 0},
		{l, `{"$sort": {"n": -1}}, {"$limit": 2}, ` + n, `{"n": 8}, {"n": 7}`, 0},
		{l, `{"$sort": {"z": 1, "n": -1}}, {"$limit": 2}, ` + n, `{"n": 8}, {"n": 7}`, 0},
		{l, `{"$sort": {"z": -1}}`, l, 0},
		{`{"n": 1, "x": [{"k": 5}, {"k": 2}]}, {"n": 2, "x": {"k": 3}}, {"n": 3, "x": [{"k": 4}, {}]}, {"n": 4, "x": []}, {"n": 5, "x": [1]}`, `{"$sort": {"x.k": 1}}, ` + n, `{"n": 3}, {"n": 4}, {"n": 5}, {"n": 1}, {"n": 2}`, 0},
		{`{"n": 1, "x": [{"k": 5}, {"k": 2}]}, {"n": 2, "x": {"k": 3}}, {"n": 3, "x": [{"k": 4}, {}]}, {"n": 4, "x": []}, {"n": 5, "x": [1]}`, `{"$sort": {"x.k": -1}}, ` + n, `{"n": 1}, {"n": 3}, {"n": 2}, {"n": 4}, {"n": 5}`, 0},
		{`{"n": 1, "x": [1, 2]}, {"n": 2, "x": [3, 0]}`, `{"$sort": {"x.0": -1}}, ` + n, `{"n": 2}, {"n": 1}`, 0},
		{`{"a": 1, "b": 1, "c": 2, "d": 2}, {"a": 1, "b": 1, "c": 2, "d": 1}, {"a": 1, "b": 1, "c": 3, "d": 0}, {"a": 1, "b": 0}`, `{"$sort": {"a": 1, "b": -1, "c": 1, "d": 1}}, {"$project": {"d": 1}}`, `{"d": 1}, {"d": 2}, {"d": 0}, {}`, 0},
		{`{"a": [[5], 7]}, {"a": [6, 8]}, {"a": [[4, 4]]}`, `{"$sort": {"a": 1}}`, `{"a": [6, 8]}, {"a": [[5], 7]}, {"a": [[4, 4]]}`, 0},
	})
	var docs, want []api.Value
	for _, v := range kinds() {
		docs = append(docs, op("a", v))
	}
	for _, n := range []int{0, 1, 5, 2, 3, 4, 6, 7, 8, 9, 10} { // of the list it is the number in it that is shown first
		want = append(want, docs[n])
	}
	wantRun(t, single("$sort", op("a", num(1))), docs, nil, want, api.OK)
}

// TestUnwind: a document for each element; what has none is kept, or not.
func TestUnwind(t *testing.T) {
	l := `{"n": 1, "l": [5, [6], {"k": 7}, null]}, {"n": 2, "l": []}, {"n": 3, "l": null}, {"n": 4}, {"n": 5, "l": 0}, {"n": 6, "l": {}}, {"n": 7, "l": false}`
	got := `{"n": 1, "l": 5}, {"n": 1, "l": [6]}, {"n": 1, "l": {"k": 7}}, {"n": 1, "l": null}, `
	rest := `{"n": 5, "l": 0}, {"n": 6, "l": {}}, {"n": 7, "l": false}`
	wantRows(t, []row{
		{l, `{"$unwind": "l"}`, got + rest, 0},
		{l, `{"$unwind": {"path": "l", "keep": false}}`, got + rest, 0},
		{l, `{"$unwind": {"keep": false, "path": "l"}}`, got + rest, 0},
		{l, `{"$unwind": {"path": "l", "keep": true}}`, got + `{"n": 2, "l": []}, {"n": 3, "l": null}, {"n": 4}, ` + rest, 0},
		{`{"a": {"l": [1, 2], "m": 3}, "b": 4}`, `{"$unwind": "a.l"}`, `{"a": {"l": 1, "m": 3}, "b": 4}, {"a": {"l": 2, "m": 3}, "b": 4}`, 0},
		{`{"a": [{"l": [1, 2]}, 3]}`, `{"$unwind": "a.0.l"}`, `{"a": [{"l": 1}, 3]}, {"a": [{"l": 2}, 3]}`, 0},
		{`{"a": [[1, 2], 3]}`, `{"$unwind": "a.0"}`, `{"a": [1, 3]}, {"a": [2, 3]}`, 0},
		{`{"a": [{"l": [1, 2]}, 3]}`, `{"$unwind": "a.l"}`, ``, 0},
		{`{"a": [{"l": [1, 2]}, 3]}`, `{"$unwind": {"path": "a.l", "keep": true}}`, `{"a": [{"l": [1, 2]}, 3]}`, 0},
		{`{"a": 1}`, `{"$unwind": "a.l"}`, ``, 0},
		{`{"l": [[1, 2], []]}`, `{"$unwind": "l"}, {"$unwind": "l"}`, `{"l": 1}, {"l": 2}`, 0},
		{`{"l": [[1, 2], []]}`, `{"$unwind": {"path": "l", "keep": true}}, {"$unwind": {"path": "l", "keep": true}}`, `{"l": 1}, {"l": 2}, {"l": []}`, 0},
	})
}

// TestFilter: Filter is the filter of a first $match alone (P8.1).
func TestFilter(t *testing.T) {
	for s, want := range map[string]api.Value{
		`[{"$match": {"a": 1}}]`:                  val(`{"a": 1}`),
		`[{"$match": {}}, {"$match": {"b": 1}}]`:  doc(),
		`[{"$match": {"$text": "x", "b": [{}]}}]`: val(`{"$text": "x", "b": [{}]}`),
		`[]`:                                    {},
		`[{"$limit": 1}]`:                       {},
		`[{"$limit": 1}, {"$match": {"a": 1}}]`: {},
		`[{"$project": {"a": 1}}, {"$match": {}}]`:    {},
		`[{"$replace": {"$literal": {"$match": 1}}}]`: {},
	} {
		if got := parse(t, val(s)).Filter(); !same(got, want) {
			t.Errorf("%s: %s", s, show(got))
		}
	}
}

// TestStagesInOrder: all documents of one stage ahead of the next one, document by document, field by field (P8.2).
func TestStagesInOrder(t *testing.T) {
	wantRows(t, []row{
		{`{"a": 1}, {"a": "x"}`, `{"$set": {"b": {"$add": ["$a", 1]}}}, {"$set": {"c": {"$divide": [1, 0]}}}`, ``, api.ErrExprKind},
		{`{"a": 1}, {"a": "x"}`, `{"$limit": 1}, {"$set": {"b": {"$add": ["$a", 1]}}}, {"$set": {"c": {"$divide": [1, 0]}}}`, ``, api.ErrExprZero},
		{`{"a": 0}, {"a": "x"}`, `{"$project": {"x": {"$abs": "$a"}, "y": {"$divide": [1, "$a"]}}}`, ``, api.ErrExprZero},
		{`{"a": 1}, {"a": "x"}`, `{"$project": {"y": {"$divide": [1, 0]}, "x": {"$abs": "$a"}}}`, ``, api.ErrExprZero},
		{`{"a": "x"}, {"a": 0}`, `{"$project": {"y": {"$divide": [1, "$a"]}}}`, ``, api.ErrExprKind},
		{`{"a": 1}, {"a": {"b": 1}}`, `{"$set": {"a.b": {"$divide": [1, 1]}}}, {"$replace": 1}`, ``, api.ErrBlocked},
		{`{"a": {"b": 1}}, {"a": 1}, {"a": {"$x": 1}}`, `{"$replace": "$a"}, {"$project": {"b": {"$divide": [1, 0]}}}`, ``, api.ErrPipeKind},
	})
	wantRun(t, list(), []api.Value{doc(), num(1)}, nil, nil, api.ErrPipeKind)
	for _, v := range append(kinds(), api.Value{}, api.Value{Kind: 77}) {
		e := api.ErrPipeKind
		if v.Kind == api.KindDoc {
			e = api.OK
		}
		wantRun(t, list(), []api.Value{v}, nil, []api.Value{v}, e)
		wantRun(t, single("$limit", num(0)), []api.Value{v}, nil, nil, e)
	}
	if got, e := parse(t, list()).Run(nil, nil); len(got) != 0 || e != api.OK {
		t.Error(got, e)
	}
	var p *pipe.Pipe
	if p, _ = pipe.Parse(num(1)); p != nil {
		t.Error(p)
	}
}
