package filter_test

import (
	"testing"

	"coffret/api"
)

// TestReach: after MaxReach values no more are tested, but all the elements of those that are lists (P6.2).
func TestReach(t *testing.T) {
	for n, want := range map[int]bool{api.MaxReach: true, api.MaxReach + 1: false} {
		l := append(many(op("k", num(1)), n-1), op("k", num(2)))
		wantMatch(t, op("x.k", num(2)), op("x", list(l...)), want, api.OK)
		wantMatch(t, at("x.k", "$elem", op("$eq", num(3))), op("x", list(append(l[:n-1], op("k", list(num(3))))...)), want, api.OK)
		wantMatch(t, op("x.k", num(3)), op("x", list(append(l[:n-1], op("k", list(num(3))))...)), want, api.OK)
		wantMatch(t, at("x", "$elem", op("k", list(num(3)))), op("x", list(l...)), true, api.OK)
		wantMatch(t, op("d.k", num(3)), op("d", op("k", list(append(many(num(1), n-1), num(3))...))), true, api.OK)
		wantMatch(t, at("d.k", "$elem", op("$eq", num(3))), op("d", op("k", list(append(many(num(1), n-1), num(3))...))), true, api.OK)
		wantMatch(t, op("x.k", num(3)), op("x", list(op("k", list(append(many(num(1), n), num(3))...)), doc())), true, api.OK)
	}
}

// TestFull: a filter of as many conditions as it may have, of a document as great as it may be (P6.2).
func TestFull(t *testing.T) {
	d := op("l", list(many(op("k", list(num(1), num(2), num(3))), 1500)...))
	wantMatch(t, op("$and", list(many(fields("l", num(1), 50), 100)...)), op("l", list()), false, api.OK)
	var l []api.Value
	for i := range 50 {
		l = append(l, op("$nor", list(op("l.k", num(-1-i)), at("l", "$elem", op("k", num(4))), at("l.k", "$in", list(many(num(5), 90)...)))))
	}
	wantMatch(t, op("$and", list(l...)), d, true, api.OK)
}

// deepList are so many lists within one another, the innermost one of v.
func deepList(v api.Value, n int) api.Value {
	for range n {
		v = list(v)
	}
	return v
}

// TestDeep: documents nested as deep as the bound has it (W1).
func TestDeep(t *testing.T) {
	deep, docs := deepList(num(7), 1<<16-2), num(7)
	for range 1<<16 - 2 {
		docs = op("a", docs)
	}
	for _, d := range []api.Value{deep, docs, op("a", deep), list(docs)} {
		for _, s := range []string{`{"a": 7}`, `{"a": [7]}`, `{"a": {"a": {"a": 7}}}`, `{"a": {"$elem": {"$elem": {"$elem": {"$eq": 7}}}}}`, `{"a": {"$size": 2}}`, `{"0.0.0.0": 7}`, `{"a.a.a.a.a.a.a.a.a.a": 7}`, `{"$expr": {"$eq": ["$$ROOT", 7]}}`} {
			wantMatch(t, val(s), d, false, api.OK)
		}
		for _, s := range []string{`{}`, `{"a": {"$ne": 7}}`, `{"a": {"$not": {"$eq": 7}}}`, `{"z": null}`} {
			wantMatch(t, val(s), op("b", d), true, api.OK)
		}
		wantPosition(t, `{"b": {"$exists": true}}`, op("b", list(d)), "b", 0)
		wantPosition(t, `{"b": 7}`, op("b", list(d)), "b", -1)
	}
	wantMatch(t, val(`{"a": {"$elem": {"$elem": {"$elem": {"$exists": true}}}}}`), op("a", deep), true, api.OK)
	wantMatch(t, val(`{"a.a.a.a.a.a.a.a.a.a": {"$type": "doc"}}`), docs, true, api.OK)
	wantMatch(t, val(`{"0.0.0.0": {"$type": "list"}}`), deep, true, api.OK)
}

// TestOdd: values that may not be (W1).
func TestOdd(t *testing.T) {
	for _, v := range []api.Value{{Kind: 99}, {Kind: -1}, {Kind: api.MinInt}, {Int: 3}, {Kind: api.KindInt, List: []api.Value{num(1)}}, {Kind: api.KindList, Doc: []api.Field{of("k", num(1))}}, txt("\xff"), {Kind: api.KindId, Text: "x"}, {Kind: api.KindBool, Int: 7}, list(api.Value{}, num(1)), doc(of("", api.Value{}))} {
		wantMatch(t, val(`{"b": {"$exists": true}}`), op("b", v), true, api.OK)
		for _, d := range []api.Value{v, op("b", v), op("b", list(v)), list(op("b", v))} {
			wantMatch(t, val(`{"c": {"$exists": true}}`), d, false, api.OK)
			wantMatch(t, val(`{"b": {"$mod": [1, 1]}}`), d, false, api.OK)
			wantMatch(t, val(`{"b": {"$prefix": "x"}}`), d, false, api.OK)
			wantMatch(t, val(`{"$or": [{"b": {"$exists": true}}, {"b": {"$exists": false}}]}`), d, true, api.OK)
			wantMatch(t, val(`{"b": {"$elem": {"$elem": {"$elem": {}}}}}`), d, false, api.OK)
		}
	}
	wantMatch(t, val(`{"a": null}`), api.Value{}, true, api.OK)
	wantMatch(t, val(`{"a": 2}`), doc(of("a", num(1)), of("a", num(2))), false, api.OK)
	wantMatch(t, val(`{"a.b": 2}`), doc(of("a", num(1)), of("a", op("b", num(2)))), false, api.OK)
	wantMatch(t, val(`{"b": {"$size": 1}}`), op("b", api.Value{Kind: api.KindDoc, List: []api.Value{num(1)}}), false, api.OK)
	wantMatch(t, val(`{"b": 1}`), op("b", api.Value{Kind: api.KindDoc, List: []api.Value{num(1)}}), false, api.OK)
	wantMatch(t, val(`{"b": {"$elem": {"$eq": 1}}}`), op("b", api.Value{Kind: api.KindDoc, List: []api.Value{num(1)}}), false, api.OK)
}
