package filter_test

import (
	"strings"
	"testing"

	"coffret/api"
)

// TestExamples are those of the chapter (P6.2).
func TestExamples(t *testing.T) {
	d := example()
	wantMeant(t, d, `{}`, `{"a": 5}`, `{"l": 7}`, `{"l": [1, 7, 9]}`, `{"z": null}`, `{"l": {"$gt": 5, "$lt": 6}}`, `{"x.k": 3}`, `{"x": {"$elem": {"k": 1, "n": 2}}}`, `{"x.n": null}`,
		`{"$or": [{"a": 1}, {"l": {"$size": 3}}]}`, `{"a": {"$not": {"$gt": 5}}}`, `{"l": {"$all": [1, 9]}}`, `{"a": {"$mod": [2, 1]}}`, `{"$expr": {"$gt": ["$a", 4]}}`)
	wantOthers(t, d, `{"a": 6}`, `{"z": {"$exists": true}}`, `{"l": {"$elem": {"$gt": 5, "$lt": 6}}}`, `{"a": {"$gt": "x"}}`, `{"x": {"$elem": {"k": 3, "n": 2}}}`)
	wantMatch(t, val(`{"$expr": {"$divide": [1, 0]}}`), d, false, api.ErrExprZero)
}

// sample is a document with some within others.
func sample() api.Value {
	return val(`{"a": 5, "s": "xyz", "n": null, "t": {"@date": 5}, "y": true, "by": {"@bytes": "xyz"}, "id": {"@id": "abcdefghijkl"}, "mi": {"@min": true}, "ma": {"@max": true},
		"l": [1, 7, [8, [9]], "xy"], "e": [], "o": {}, "d": {"k": 3, "l": [2, 4]}, "x": [{"k": 1, "n": 2}, {"k": [3, 4]}, 6, [{"k": 5}]], "u": [null, {"@missing": true}], "m": {"@missing": true}}`)
}

// TestEqual: a value, `$eq`, `$ne`: of lists each element, too, but not what is in these (P6.2).
func TestEqual(t *testing.T) {
	d := sample()
	yes := []string{`"a": 5`, `"s": "xyz"`, `"n": null`, `"z": null`, `"z.z": null`, `"a.z": null`, `"m": null`, `"l": 1`, `"l": [8, [9]]`, `"l": [1, 7, [8, [9]], "xy"]`, `"l": "xy"`, `"e": []`, `"o": {}`, `"d": {"k": 3, "l": [2, 4]}`, `"d.k": 3`, `"d.l": 4`, `"d.l": [2, 4]`, `"d.l.1": 4`, `"l.0": 1`, `"l.2": 8`, `"l.2": [9]`, `"l.2": [8, [9]]`, `"l.2.1": 9`,
		`"x.k": 1`, `"x.k": 4`, `"x.k": [3, 4]`, `"x.n": 2`, `"x.n": null`, `"x": 6`, `"x": {"k": 1, "n": 2}`, `"x": [{"k": 5}]`, `"x.0.k": 1`, `"x.3.k": 5`, `"x.1.k": 3`, `"u": null`, `"u.1": null`, `"t": {"@date": 5}`, `"y": true`, `"by": {"@bytes": "xyz"}`, `"id": {"@id": "abcdefghijkl"}`, `"mi": {"@min": true}`, `"ma": {"@max": true}`}
	no := []string{`"a": 4`, `"a": {"@date": 5}`, `"a": [5]`, `"a": null`, `"s": "xy"`, `"s": {"@bytes": "xyz"}`, `"n": 0`, `"n": false`, `"l": 8`, `"l": [9]`, `"l": 9`, `"l": [1, 7]`, `"l": []`, `"l": null`, `"e": null`, `"o": null`, `"o": []`, `"d": {"l": [2, 4], "k": 3}`, `"d": {"k": 3}`, `"d.k": null`, `"x.k": 5`, `"x.k": null`, `"x": {"k": 1}`, `"x": {"k": 5}`, `"x": 1`, `"u": 1`, `"t": 5`, `"y": 1`, `"l.2": 9`,
		`"e.0": null`, `"e.k": null`, `"l.z": null`} // from a list without documents a name leads nowhere: nothing is tested
	for _, s := range yes {
		path, v := val("{" + s + "}").Doc[0].Name, val("{" + s + "}").Doc[0].Value
		wantMeant(t, d, "{"+s+"}")
		wantMatch(t, at(path, "$eq", v), d, true, api.OK)
		wantMatch(t, at(path, "$ne", v), d, false, api.OK)
	}
	for _, s := range no {
		path, v := val("{" + s + "}").Doc[0].Name, val("{" + s + "}").Doc[0].Value
		wantOthers(t, d, "{"+s+"}")
		wantMatch(t, at(path, "$eq", v), d, false, api.OK)
		wantMatch(t, at(path, "$ne", v), d, true, api.OK)
	}
	wantMeant(t, val(`{"o": {"$gt": 5}}`), `{"o": {"$eq": {"$gt": 5}}}`, `{"o": {"$ne": {"$gt": 4}}}`)
	wantOthers(t, val(`{"o": {"$gt": 5}}`), `{"o": {"$gt": 5}}`)
	wantMeant(t, val(`{"o": {"b": 1, "$gt": 5}}`), `{"o": {"b": 1, "$gt": 5}}`)
}

// TestOrdered: the tests by the order, of one kind (P6.2).
func TestOrdered(t *testing.T) {
	d := sample()
	wantMeant(t, d, `{"a": {"$gt": 4}}`, `{"a": {"$gte": 5}}`, `{"a": {"$lt": 6}}`, `{"a": {"$lte": 5}}`, `{"s": {"$gt": "xy"}}`, `{"s": {"$lt": "y"}}`, `{"l": {"$gt": 6}}`, `{"l": {"$lt": 2}}`, `{"l": {"$gt": "x"}}`, `{"l": {"$lt": [8, [9], 0]}}`, `{"l": {"$gte": [8, [9]]}}`, `{"l": {"$gt": [1, 7]}}`, `{"o": {"$lt": {"a": 1}}}`, `{"d": {"$gt": {"k": 3}}}`, `{"d.l": {"$gt": 3}}`, `{"x.k": {"$lt": 2}}`, `{"x.k": {"$gt": 3}}`, `{"y": {"$gt": false}}`, `{"t": {"$gt": {"@date": 4}}}`,
		`{"n": {"$gte": null}}`, `{"n": {"$lte": null}}`, `{"z": {"$gte": null}}`, `{"z": {"$lte": null}}`, `{"m": {"$gte": null}}`, `{"u": {"$lte": null}}`, `{"x.n": {"$gte": null}}`, `{"mi": {"$gte": {"@min": true}}}`, `{"ma": {"$lte": {"@max": true}}}`, `{"e": {"$lte": []}}`, `{"by": {"$lt": {"@bytes": "y"}}}`, `{"id": {"$gt": {"@id": "abcdefghijkk"}}}`)
	wantOthers(t, d, `{"a": {"$gt": 5}}`, `{"a": {"$gte": 6}}`, `{"a": {"$lt": 5}}`, `{"a": {"$lte": 4}}`, `{"s": {"$gt": "xyz"}}`, `{"l": {"$gt": 7}}`, `{"l": {"$lt": 1}}`, `{"l": {"$gt": [8, [9]]}}`, `{"a": {"$gt": null}}`, `{"a": {"$lt": "x"}}`, `{"a": {"$lt": {"@max": true}}}`, `{"a": {"$gt": {"@min": true}}}`, `{"s": {"$gt": 5}}`, `{"t": {"$gt": 4}}`, `{"y": {"$gt": 0}}`, `{"n": {"$gt": null}}`, `{"n": {"$lt": null}}`, `{"z": {"$gt": null}}`, `{"z": {"$lt": 5}}`, `{"z": {"$gt": 5}}`, `{"e": {"$lt": []}}`, `{"e": {"$gte": 0}}`, `{"e.k": {"$gte": null}}`, `{"mi": {"$gt": {"@min": true}}}`, `{"o": {"$gte": null}}`)
}

// TestIn: `$in` is one of them, `$nin` none (P6.2).
func TestIn(t *testing.T) {
	d := sample()
	for s, want := range map[string]bool{`"a": [5]`: true, `"a": [4, 5, 6]`: true, `"a": [4, 6]`: false, `"a": []`: false, `"a": [[5]]`: false, `"a": [{"@date": 5}, "5", null]`: false, `"z": [1, null]`: true, `"z": [1]`: false, `"n": [null]`: true, `"m": [null]`: true, `"l": [7]`: true, `"l": [[8, [9]]]`: true, `"l": [8, 9, [9]]`: false, `"l": [[1, 7, [8, [9]], "xy"]]`: true, `"x.k": [4]`: true, `"x.k": [null, 5]`: false, `"x.n": [null]`: true, `"e": [[]]`: true, `"e": [null]`: false, `"e.k": [null]`: false, `"o": [{}]`: true, `"u": [null]`: true} {
		f := val("{" + s + "}").Doc[0]
		wantMatch(t, at(f.Name, "$in", f.Value), d, want, api.OK)
		wantMatch(t, at(f.Name, "$nin", f.Value), d, !want, api.OK)
	}
}

// TestPrefix: texts alone begin with a text (P6.2).
func TestPrefix(t *testing.T) {
	d := sample()
	wantMeant(t, d, `{"s": {"$prefix": ""}}`, `{"s": {"$prefix": "x"}}`, `{"s": {"$prefix": "xyz"}}`, `{"l": {"$prefix": "xy"}}`, `{"l": {"$prefix": ""}}`)
	wantOthers(t, d, `{"s": {"$prefix": "xyza"}}`, `{"s": {"$prefix": "y"}}`, `{"s": {"$prefix": "X"}}`, `{"by": {"$prefix": "x"}}`, `{"id": {"$prefix": "a"}}`, `{"a": {"$prefix": ""}}`, `{"a": {"$prefix": "5"}}`, `{"z": {"$prefix": ""}}`, `{"n": {"$prefix": ""}}`, `{"d": {"$prefix": "k"}}`, `{"e": {"$prefix": ""}}`)
	wantMeant(t, val(`{"l": [["a"], "éa"]}`), `{"l": {"$prefix": "é"}}`)
	wantOthers(t, val(`{"l": [["a"], "éa"]}`), `{"l": {"$prefix": "a"}}`)
}

// TestMod: what is left has the number's own sign (P6.2).
func TestMod(t *testing.T) {
	for _, x := range []struct {
		n, by, rest int
		want        bool
	}{
		{5, 2, 1, true}, {5, 2, 0, false}, {5, 2, -1, false}, {5, -2, 1, true}, {5, -2, -1, false}, {-5, 2, -1, true}, {-5, 2, 1, false}, {-5, -2, -1, true}, {-5, -2, 1, false}, {6, 3, 0, true}, {0, 7, 0, true}, {5, 9, 5, true}, {5, 5, 5, false}, {5, 1, 0, true}, {5, -1, 0, true}, {5, -1, 1, false},
		{api.MinInt, -1, 0, true}, {api.MinInt, -1, 1, false}, {api.MinInt, 1, 0, true}, {api.MinInt, api.MinInt, 0, true}, {api.MinInt, api.MaxInt, -1, true}, {api.MaxInt, api.MinInt, api.MaxInt, true}, {api.MinInt, 10, -8, true}, {api.MaxInt, 10, 7, true}, {-1, api.MinInt, -1, true},
	} {
		f := list(num(x.by), num(x.rest))
		wantMatch(t, at("a", "$mod", f), op("a", num(x.n)), x.want, api.OK)
		wantMatch(t, at("a", "$mod", f), op("a", list(txt("x"), num(x.n))), x.want, api.OK)
		wantMatch(t, at("a", "$mod", f), op("a", list(list(num(x.n)))), false, api.OK)
		wantMatch(t, at("a", "$mod", f), op("a", date(x.n)), false, api.OK)
	}
	wantOthers(t, sample(), `{"z": {"$mod": [1, 0]}}`, `{"n": {"$mod": [1, 0]}}`, `{"y": {"$mod": [2, 1]}}`, `{"s": {"$mod": [1, 0]}}`, `{"o": {"$mod": [1, 0]}}`, `{"e": {"$mod": [1, 0]}}`)
	wantMeant(t, sample(), `{"l": {"$mod": [4, 3]}}`, `{"x.k": {"$mod": [4, 0]}}`)
}

// TestType: of each kind its word; what is missing is of none (P6.2).
func TestType(t *testing.T) {
	words := []string{"min", "null", "int", "text", "doc", "list", "bytes", "id", "bool", "date", "max"}
	for i, word := range words {
		for j, v := range kinds() {
			if v.Kind != j+1 {
				t.Fatal(show(v))
			}
			within := i == j || v.Kind == api.KindList && word == "int"
			wantMatch(t, at("a", "$type", txt(word)), op("a", v), within, api.OK)
			wantMatch(t, at("a", "$type", txt(word)), op("a", list(v)), i == j || word == "list", api.OK)
			wantMatch(t, at("a", "$type", txt(word)), op("a", list(list(list(v)))), word == "list", api.OK)
			wantMatch(t, at("b.k", "$type", txt(word)), op("b", list(op("k", v), doc())), within, api.OK)
		}
		for _, v := range []api.Value{{}, {Kind: 12}, {Kind: -1}, {Int: 5}} {
			wantMatch(t, at("a", "$type", txt(word)), op("a", v), false, api.OK)
			wantMatch(t, at("a", "$type", txt(word)), doc(), false, api.OK)
			wantMatch(t, at("a", "$type", txt(word)), op("a", list(v)), word == "list", api.OK)
		}
	}
}

// TestExists: just if something is there; elements are not asked (P6.2).
func TestExists(t *testing.T) {
	d := sample()
	for path, want := range map[string]bool{"a": true, "n": true, "e": true, "o": true, "z": false, "m": false, "u": true, "a.z": false, "d.k": true, "d.z": false, "x.n": true, "x.z": false, "e.k": false, "e.0": false, "l.0": true, "l.9": false, "u.0": true, "u.1": false, "l.z": false, "x.3.k": true, "x.2": true, "x.4": false, "y.z": false} {
		wantMatch(t, at(path, "$exists", flag(true)), d, want, api.OK)
		wantMatch(t, at(path, "$exists", flag(false)), d, !want, api.OK)
	}
	wantMatch(t, at("a", "$exists", flag(true)), op("a", api.Value{Int: 1}), true, api.OK)
	wantMatch(t, at("a", "$exists", flag(true)), op("a", api.Value{List: []api.Value{}, Doc: []api.Field{}}), false, api.OK)
}

// TestSize: lists of so many; elements are not asked (P6.2).
func TestSize(t *testing.T) {
	d := sample()
	wantMeant(t, d, `{"l": {"$size": 4}}`, `{"e": {"$size": 0}}`, `{"d.l": {"$size": 2}}`, `{"l.2": {"$size": 2}}`, `{"x.k": {"$size": 2}}`, `{"x": {"$size": 4}}`, `{"u": {"$size": 2}}`)
	wantOthers(t, d, `{"l": {"$size": 2}}`, `{"l": {"$size": 3}}`, `{"l": {"$size": 5}}`, `{"e": {"$size": 1}}`, `{"e": {"$size": -1}}`, `{"a": {"$size": 0}}`, `{"a": {"$size": 1}}`, `{"z": {"$size": 0}}`, `{"n": {"$size": 0}}`, `{"s": {"$size": 3}}`, `{"o": {"$size": 0}}`, `{"x.k": {"$size": 1}}`, `{"e.k": {"$size": 0}}`)
	wantMatch(t, at("a", "$size", num(1)), op("a", api.Value{Kind: api.KindInt, List: []api.Value{num(1)}}), false, api.OK)
}

// TestAll: each of them is there; of none that does not hold (P6.2).
func TestAll(t *testing.T) {
	d := sample()
	wantMeant(t, d, `{"l": {"$all": [1]}}`, `{"l": {"$all": [7, 1, 7]}}`, `{"l": {"$all": [[8, [9]], "xy"]}}`, `{"l": {"$all": [1, [1, 7, [8, [9]], "xy"]]}}`, `{"a": {"$all": [5]}}`, `{"a": {"$all": [5, 5]}}`, `{"z": {"$all": [null]}}`, `{"x.k": {"$all": [1, 3, 4, [3, 4]]}}`, `{"x.n": {"$all": [2, null]}}`, `{"e": {"$all": [[]]}}`)
	wantOthers(t, d, `{"l": {"$all": []}}`, `{"e": {"$all": []}}`, `{"z": {"$all": []}}`, `{"l": {"$all": [1, 2]}}`, `{"l": {"$all": [2, 1]}}`, `{"l": {"$all": [8]}}`, `{"a": {"$all": [5, 6]}}`, `{"e": {"$all": [null]}}`, `{"x.k": {"$all": [1, 5]}}`)
}

// TestElem: lists with an element that is meant (P6.2).
func TestElem(t *testing.T) {
	d := sample()
	wantMeant(t, d, `{"l": {"$elem": {"$gt": 1, "$lt": 8}}}`, `{"l": {"$elem": {"$eq": 7}}}`, `{"l": {"$elem": {"$eq": 8}}}`, `{"l": {"$elem": {"$eq": [8, [9]]}}}`, `{"l": {"$elem": {"$eq": [9]}}}`, `{"l": {"$elem": {"$size": 2}}}`, `{"l": {"$elem": {"$elem": {"$elem": {"$eq": 9}}}}}`, `{"l": {"$elem": {"$elem": {"$eq": 8}}}}`, `{"l": {"$elem": {"$type": "text", "$prefix": "x"}}}`, `{"l": {"$elem": {"$not": {"$type": "int"}}}}`, `{"l": {"$elem": {"$ne": 1}}}`, `{"l": {"$elem": {"$nin": [1, 7, "xy"]}}}`, `{"l": {"$elem": {"$in": [3, "xy"]}}}`, `{"l": {"$elem": {"$all": [8, [9]]}}}`, `{"l": {"$elem": {"$exists": true}}}`, `{"l": {"$elem": {"$mod": [4, 3]}}}`,
		`{"x": {"$elem": {}}}`, `{"x": {"$elem": {"k": 1}}}`, `{"x": {"$elem": {"k": 4}}}`, `{"x": {"$elem": {"k": {"$gt": 3}, "n": null}}}`, `{"x": {"$elem": {"n": {"$exists": false}}}}`, `{"x": {"$elem": {"$and": [{"k": 1}, {"n": 2}]}}}`, `{"x": {"$elem": {"$or": [{"k": 9}, {"n": 2}]}}}`, `{"x": {"$elem": {"$nor": [{"k": 1}]}}}`, `{"x": {"$elem": {"$expr": {"$eq": ["$n", 2]}}}}`, `{"x": {"$elem": {"k": {"$elem": {"$eq": 4}}}}}`, `{"x.3": {"$elem": {"k": 5}}}`, `{"x": {"$elem": {"$elem": {"k": 5}}}}`, `{"x.k": {"$elem": {"$gt": 3}}}`, `{"x": {"$elem": {"$eq": 6}}}`, `{"d.l": {"$elem": {"$eq": 2}}}`, `{"u": {"$elem": {"$eq": null}}}`, `{"u": {"$elem": {"$exists": false}}}`)
	wantOthers(t, d, `{"l": {"$elem": {"$gt": 1, "$lt": 7}}}`, `{"l": {"$elem": {"$nin": [1, 7, "xy", 8]}}}`, `{"l": {"$elem": {"$eq": 9}}}`, `{"l": {"$elem": {"$eq": null}}}`, `{"l": {"$elem": {"$size": 4}}}`, `{"l": {"$elem": {"$elem": {"$eq": 7}}}}`, `{"l": {"$elem": {"$exists": false}}}`, `{"l": {"$elem": {"$all": []}}}`, `{"l": {"$elem": {}}}`, `{"l": {"$elem": {"k": null}}}`, `{"a": {"$elem": {"$eq": 5}}}`, `{"z": {"$elem": {"$eq": null}}}`, `{"z": {"$elem": {}}}`, `{"e": {"$elem": {}}}`, `{"e": {"$elem": {"$exists": false}}}`, `{"o": {"$elem": {}}}`,
		`{"x": {"$elem": {"k": 3, "n": 2}}}`, `{"x": {"$elem": {"k": 5}}}`, `{"x": {"$elem": {"$elem": {"k": 1}}}}`, `{"x": {"$elem": {"$nor": [{"k": {"$gt": 0}}]}}}`, `{"x": {"$elem": {"$expr": "$z"}}}`, `{"x.k": {"$elem": {"$eq": 1}}}`, `{"d": {"$elem": {"k": 3}}}`, `{"x": {"$elem": {"x": {"$exists": true}}}}`)
}

// TestNot: not all of the tests hold (P6.2).
func TestNot(t *testing.T) {
	d := sample()
	wantMeant(t, d, `{"a": {"$not": {"$gt": 5}}}`, `{"a": {"$not": {"$gt": 4, "$lt": 5}}}`, `{"l": {"$not": {"$gt": 7, "$lt": 2}}}`, `{"z": {"$not": {"$gt": 0}}}`, `{"e.k": {"$not": {"$eq": null}}}`, `{"a": {"$not": {"$not": {"$eq": 5}}}}`, `{"a": {"$gt": 4, "$not": {"$gt": 5}}}`, `{"l": {"$not": {"$elem": {"$gt": 1, "$lt": 7}}}}`, `{"z": {"$not": {"$exists": true}}}`)
	wantOthers(t, d, `{"a": {"$not": {"$gt": 4}}}`, `{"a": {"$not": {"$gt": 4, "$lt": 6}}}`, `{"l": {"$not": {"$gt": 1, "$lt": 7}}}`, `{"z": {"$not": {"$eq": null}}}`, `{"a": {"$gt": 5, "$not": {"$gt": 5}}}`, `{"a": {"$not": {"$exists": true}}}`)
}

// TestJoined: all fields, and what `$and`, `$or`, `$nor` say (P6.2).
func TestJoined(t *testing.T) {
	yes, no := doc(), val(`{"a": {"$exists": true, "$size": -1}}`)
	for n := 1; n <= 4; n++ {
		for bits := range 1 << n {
			var l []api.Value
			ones := 0
			for i := range n {
				l = append(l, pick2(bits>>i&1 == 1, yes, no))
				ones += bits >> i & 1
			}
			wantMatch(t, op("$and", list(l...)), doc(), ones == n, api.OK)
			wantMatch(t, op("$or", list(l...)), doc(), ones > 0, api.OK)
			wantMatch(t, op("$nor", list(l...)), doc(), ones == 0, api.OK)
		}
	}
	d := sample()
	wantMeant(t, d, `{"a": 5, "s": "xyz", "l": 1}`, `{"$and": [{"a": 5}, {"s": "xyz"}], "$or": [{"a": 1}, {"l": 1}], "$nor": [{"a": 1}, {"l": 2}], "n": null}`, `{"$or": [{"$and": [{"a": 5}, {"s": "q"}]}, {"$nor": [{"$or": [{"a": 1}]}]}]}`, `{"$text": "nowhere"}`, `{"$text": ""}`, `{"a": 5, "$text": "nowhere", "s": "xyz"}`, `{"$expr": 1}`, `{"$expr": "$a"}`, `{"$expr": [0]}`, `{"$expr": {"$eq": ["$$ROOT.a", 5]}}`)
	wantOthers(t, d, `{"a": 5, "s": "xyz", "l": 2}`, `{"a": 4, "s": "xyz"}`, `{"s": "x", "a": 5}`, `{"$and": [{"a": 5}], "$or": [{"a": 1}]}`, `{"$and": [{"a": 5}], "$nor": [{"a": 5}]}`, `{"$text": "x", "a": 4}`, `{"$expr": 0}`, `{"$expr": "$z"}`, `{"$expr": "$n"}`, `{"$expr": {"$not": "$a"}}`, `{"a": 5, "$expr": false}`)
}

func pick2(is bool, a, b api.Value) api.Value {
	if is {
		return a
	}
	return b
}

// TestErrors: the first error of an expression that is asked; nothing is asked behind what decides (P6.2).
func TestErrors(t *testing.T) {
	d := sample()
	zero, kind := `{"$expr": {"$divide": [1, 0]}}`, `{"$expr": {"$abs": "x"}}`
	fill := strings.NewReplacer("Z", zero, "K", kind)
	for s, want := range map[string]api.Errno{
		`Z`: api.ErrExprZero, `K`: api.ErrExprKind, `{"$and": [Z, K]}`: api.ErrExprZero, `{"$and": [K, Z]}`: api.ErrExprKind, `{"$or": [Z, {}]}`: api.ErrExprZero, `{"$or": [{"a": 4}, K]}`: api.ErrExprKind, `{"$nor": [Z, {}]}`: api.ErrExprZero, `{"$nor": [{"a": 4}, K, {}]}`: api.ErrExprKind, `{"$and": [{"a": 5}, Z, {"a": 4}]}`: api.ErrExprZero,
		`{"a": 5, "$expr": {"$mod": [1, 0]}}`: api.ErrExprZero, `{"$expr": {"$mod": [1, 0]}, "a": 4}`: api.ErrExprZero, `{"$and": [Z], "$or": [K]}`: api.ErrExprZero, `{"$or": [{"$and": [{"a": 5}, Z]}, {}]}`: api.ErrExprZero, `{"$nor": [{"$nor": [Z]}]}`: api.ErrExprZero,
		`{"x": {"$elem": Z}}`: api.ErrExprZero, `{"x": {"$elem": {"$and": [{"k": 4}, K]}}}`: api.ErrExprKind, `{"x": {"$elem": {"$expr": {"$abs": "$k"}}}}`: -1, `{"x": {"$elem": {"k": {"$size": 2}, "$expr": {"$abs": "$k"}}}}`: api.ErrExprKind, `{"x": {"$not": {"$elem": Z}}}`: api.ErrExprZero, `{"x": {"$elem": {"$elem": Z}}}`: api.ErrExprZero, `{"x": {"$size": 4, "$elem": Z}}`: api.ErrExprZero, `{"x": {"$elem": Z, "$size": 3}}`: api.ErrExprZero, `{"x": {"$not": {"$size": 4, "$elem": K}}}`: api.ErrExprKind, `{"x": {"$elem": {"$nor": [{"k": 9}, Z]}}}`: api.ErrExprZero,
		`{"$expr": {"$add": [9223372036854775807, 1]}}`: api.ErrExprOver,
		`{"a": 4, "$expr": {"$mod": [1, 0]}}`:           0, `{"$and": [{"a": 4}, Z]}`: 0, `{"$or": [{"a": 5}, Z]}`: -1, `{"$nor": [{"a": 5}, Z]}`: 0, `{"z": {"$elem": Z}}`: 0, `{"e": {"$elem": Z}}`: 0, `{"l": {"$elem": Z}}`: 0, `{"x": {"$size": 3, "$elem": Z}}`: 0, `{"x": {"$not": {"$size": 3, "$elem": Z}}}`: -1, `{"x": {"$elem": {"k": 9, "$expr": {"$mod": [1, 0]}}}}`: 0, `{"x": {"$elem": {"$or": [{"k": 1}, Z]}}}`: -1, `{"x": {"$elem": {"$and": [{"k": 9}, Z]}}}`: 0, `{"$or": [{"$nor": [{"a": 4}]}, Z]}`: -1,
	} {
		v := val(fill.Replace(s))
		wantMatch(t, v, d, want == -1, max(want, 0))
	}
}

// TestWork: each expression has its own steps, each time (P6.2).
func TestWork(t *testing.T) {
	for s, want := range map[string]api.Errno{`137`: api.OK, `139`: api.ErrExprWork} { // 19885 steps, 20165
		v := val(`{"$expr": {"$size": {"$map": {"input": {"$range": [0, 140]}, "as": "x", "in": {"$size": {"$range": [0, ` + s + `]}}}}}}`)
		wantMatch(t, v, doc(), want == api.OK, want)
		wantMatch(t, op("$and", list(v, v, v)), doc(), want == api.OK, want)
		wantMatch(t, at("x", "$elem", op("$nor", list(v))), op("x", list(doc(), doc(), doc())), false, want)
	}
}
