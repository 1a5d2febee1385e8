package expr_test

import (
	"strings"
	"testing"

	"coffret/api"
	"coffret/expr"
)

// TestExamples are those of the chapter (P5.3).
func TestExamples(t *testing.T) {
	wantRows(t, example(), []row{
		{`"$a"`, `5`}, {`"$$ROOT.a"`, `5`}, {`"$z"`, `missing`}, {`"a"`, `"a"`}, {`7`, `7`}, {`{"k": "$a", "m": "$z"}`, `{"k": 5}`}, {`["$a", "$z"]`, `[5, null]`},
		{`{"$add": ["$a", 1]}`, `6`}, {`{"$add": ["$a", "$n"]}`, `null`}, {`{"$add": ["$a", "$b"]}`, `ErrExprKind`}, {`{"$add": ["$t", 5]}`, `{"@date": 86400005}`},
		{`{"$map": {"input": "$l", "as": "x", "in": {"$multiply": ["$$x", "$$x"]}}}`, `[1, 4, 9]`},
		{`{"$reduce": {"input": "$l", "initial": 0, "in": {"$add": ["$$value", "$$this"]}}}`, `6`},
		{`{"$cond": [{"$gt": ["$a", 3]}, "big", {"$divide": [1, 0]}]}`, `"big"`}, {`{"$divide": [-7, 2]}`, `-3`}, {`{"$mod": [-7, 2]}`, `-1`},
		{`{"$day": "$t"}`, `2`}, {`{"$weekday": "$t"}`, `5`}, {`{"$year": "$t"}`, `1970`}, {`{"$type": "$z"}`, `"missing"`},
	})
}

// TestTruth: missing, null, false and 0 don't count as true (P5.2).
func TestTruth(t *testing.T) {
	for _, v := range []api.Value{{}, null(), flag(false), num(0), {List: []api.Value{}, Doc: []api.Field{}}} {
		if expr.Truth(v) {
			t.Errorf("%v counts as true", v)
		}
	}
	yes := append(kinds(), num(1), num(-1), num(api.MinInt), num(api.MaxInt), txt(""), txt("0"), txt("false"), list(), list(num(0)), doc(), date(0), date(-1), api.Value{Kind: api.KindBytes}, api.Value{Kind: api.KindId}, api.Value{Kind: api.KindBool, Int: 2}, api.Value{Kind: 12}, api.Value{Kind: -1}, api.Value{Kind: api.MinInt}, api.Value{Int: 1}, api.Value{Text: "x"})
	for _, v := range yes {
		if v.Kind == api.KindNull {
			continue
		}
		if !expr.Truth(v) {
			t.Errorf("%v does not count as true", v)
		}
	}
}

// TestWays: fields and variables are picked; of lists they are lists (P5.3).
func TestWays(t *testing.T) {
	wantRows(t, sample(), []row{
		{`"$a"`, `5`}, {`"$z"`, `missing`}, {`"$a.b"`, `missing`}, {`"$n"`, `null`}, {`"$n.a"`, `missing`}, {`"$b"`, `"xy"`}, {`"$d.k"`, `7`}, {`"$d.z"`, `missing`}, {`"$d.k.z"`, `missing`},
		{`"$l"`, `[1, 2, 3]`}, {`"$l.0"`, `[]`}, {`"$d.l"`, `[{"k": 1, "m": [1]}, {"k": 2}, 3, {"j": 0}]`}, {`"$d.l.k"`, `[1, 2]`}, {`"$d.l.m"`, `[[1]]`}, {`"$d.l.m.x"`, `[[]]`}, {`"$d.l.z"`, `[]`}, {`"$le"`, `[]`}, {`"$le.a"`, `[]`}, {`"$0.1"`, `"nought"`}, {`"$de"`, `{}`}, {`"$ROOT"`, `missing`},
		{`"$$ROOT.a"`, `5`}, {`"$$ROOT.d.l.k"`, `[1, 2]`}, {`"$$ROOT.z"`, `missing`}, {`"$$ROOT.ROOT"`, `missing`}, {`"$$ROOT.de"`, `{}`},
		{`"$mi"`, `{"@min": true}`}, {`"$ma"`, `{"@max": true}`}, {`"$by"`, `{"@bytes": "ab"}`}, {`"$id"`, `{"@id": "abcdefghijkl"}`}, {`"$t"`, `{"@date": 86400000}`}, {`"$y"`, `true`},
		{`{"$map": {"input": "$d.l", "as": "x", "in": "$$x.k"}}`, `[1, 2, null, null]`}, {`{"$map": {"input": "$d.l", "as": "x", "in": "$$x.m.q"}}`, `[[], null, null, null]`}, {`{"$map": {"input": "$l", "as": "x", "in": "$x"}}`, `[null, null, null]`},
	})
	wantValue(t, txt("$$ROOT"), sample(), sample(), api.OK)
	wantValue(t, txt("$1.2.3.4.5.6.7.8.9.10"), val(`{"1": {"2": {"3": {"4": {"5": {"6": {"7": {"8": {"9": {"10": "deep"}}}}}}}}}}`), txt("deep"), api.OK)
	wantValue(t, txt("$$ROOT.2.3.4.5.6.7.8.9.10"), val(`{"2": {"3": {"4": {"5": {"6": {"7": {"8": {"9": {"10": "deep"}}}}}}}}}`), txt("deep"), api.OK)
}

// TestOfAny: the document may be any value (P5.3).
func TestOfAny(t *testing.T) {
	odd := []api.Value{{}, {Kind: 99}, {Kind: -1}, {Int: 3}, {Kind: api.KindInt, Text: "x"}, txt("\xff"), list(api.Value{}, num(1)), doc(of("", api.Value{}))}
	for _, v := range append(kinds(), odd...) {
		wantValue(t, txt("$$ROOT"), v, v, api.OK)
		if v.Kind != api.KindDoc && v.Kind != api.KindList {
			wantValue(t, txt("$a"), v, api.Value{}, api.OK)
			wantValue(t, txt("$$ROOT.a"), v, api.Value{}, api.OK)
		}
		wantValue(t, val(`{"a": [1, {"$abs": -2}]}`), v, val(`{"a": [1, 2]}`), api.OK)
	}
	wantValue(t, txt("$a"), list(doc(of("a", num(1))), num(2), doc(of("b", num(3))), doc(of("a", num(4)))), list(num(1), num(4)), api.OK)
	wantValue(t, txt("$a"), doc(of("b", num(0)), of("a", num(1)), of("a", num(2))), num(1), api.OK)
	wantValue(t, txt("$a.b"), doc(of("a", num(1)), of("a", doc(of("b", num(2))))), api.Value{}, api.OK)
	wantValue(t, val(`["$a"]`), doc(of("a", api.Value{})), val(`[null]`), api.OK)
	wantValue(t, val(`{"k": "$a", "j": 1}`), doc(of("a", api.Value{})), val(`{"j": 1}`), api.OK)
	for _, name := range []string{"$abs", "$lower", "$upper", "$length", "$size", "$reverse", "$toInt", "$toText", "$toDate", "$year", "$merge", "$concat", "$join", "$add", "$multiply"} {
		for _, v := range odd[1:4] {
			wantValue(t, op(name, txt("$$ROOT")), v, api.Value{}, api.ErrExprKind)
		}
		wantValue(t, op(name, txt("$$ROOT")), api.Value{}, null(), api.OK)
	}
}

// TestRows: lists have null for what is missing, documents leave it out (P5.3).
func TestRows(t *testing.T) {
	wantRows(t, sample(), []row{
		{`[]`, `[]`}, {`{}`, `{}`}, {`[1, "$z", "$n", "$a"]`, `[1, null, null, 5]`}, {`[[["$z"]], {"a": ["$z"]}, {}]`, `[[[null]], {"a": [null]}, {}]`},
		{`{"x": "$z", "y": "$n", "z": "$a"}`, `{"y": null, "z": 5}`}, {`{"z": 1, "a": {"x": "$z"}, "b": 2}`, `{"z": 1, "a": {}, "b": 2}`}, {`{"x": "$z"}`, `{}`}, {`{"a.b": "$a", "a$": 1}`, `{"a.b": 5, "a$": 1}`},
		{`{"x": {"$at": [[], 0]}, "y": [{"$at": [[], 0]}]}`, `{"y": [null]}`},
		{`[{"$divide": [1, 0]}, {"$abs": "x"}]`, `ErrExprZero`}, {`[{"$abs": "x"}, {"$divide": [1, 0]}]`, `ErrExprKind`}, {`{"a": {"$abs": "x"}, "b": {"$divide": [1, 0]}}`, `ErrExprKind`}, {`{"b": {"$divide": [1, 0]}, "a": {"$abs": "x"}}`, `ErrExprZero`}, {`[1, [2, {"x": {"$abs": "x"}}]]`, `ErrExprKind`},
	})
}

// TestLiteral: what is not read is told as it is (P5.3).
func TestLiteral(t *testing.T) {
	wantRows(t, sample(), []row{
		{`{"$literal": "$a"}`, `"$a"`}, {`{"$literal": [1]}`, `[1]`}, {`{"$literal": []}`, `[]`}, {`{"$literal": ["$a", "$z"]}`, `["$a", "$z"]`}, {`{"$literal": {"$add": [1, 2]}}`, `{"$add": [1, 2]}`}, {`{"$literal": null}`, `null`}, {`{"$literal": {"$literal": 1}}`, `{"$literal": 1}`}, {`{"$literal": {"a": 1, "$b": 2}}`, `{"a": 1, "$b": 2}`},
		{`{"$concat": [{"$literal": "$a"}, "b"]}`, `"$ab"`}, {`{"$size": {"$literal": [1, 2, 3]}}`, `3`},
	})
	for _, v := range kinds() {
		wantValue(t, op("$literal", v), doc(), v, api.OK)
	}
}

// replace puts an expression where X stands.
func replace(s, x string) string { return strings.ReplaceAll(s, "X", x) }

// strictCalls are calls of all operators marked N, with X for one argument.
func strictCalls() []string {
	return []string{
		`{"$add": [1, X]}`, `{"$add": [X, 1]}`, `{"$add": X}`, `{"$multiply": [X, 2]}`, `{"$multiply": [2, 3, X]}`, `{"$subtract": [X, 1]}`, `{"$subtract": [1, X]}`, `{"$divide": [X, 1]}`, `{"$divide": [1, X]}`, `{"$divide": [X, 0]}`, `{"$mod": [X, 1]}`, `{"$mod": [1, X]}`, `{"$mod": [X, 0]}`, `{"$abs": X}`,
		`{"$concat": ["a", X]}`, `{"$concat": [X, "a"]}`, `{"$lower": X}`, `{"$upper": X}`, `{"$length": X}`, `{"$part": [X, 1, 1]}`, `{"$part": ["a", X, 1]}`, `{"$part": ["a", 1, X]}`, `{"$find": [X, "a"]}`, `{"$find": ["a", X]}`, `{"$split": [X, "a"]}`, `{"$split": ["a", X]}`, `{"$split": [X, ""]}`,
		`{"$size": X}`, `{"$at": [X, 0]}`, `{"$at": [[1], X]}`, `{"$slice": [X, 0, 1]}`, `{"$slice": [[1], X, 1]}`, `{"$slice": [[1], 0, X]}`, `{"$join": [[1], X]}`, `{"$join": [X, [1]]}`, `{"$reverse": X}`, `{"$range": [X, 3]}`, `{"$range": [0, X]}`,
		`{"$toInt": X}`, `{"$toText": X}`, `{"$toDate": X}`, `{"$year": X}`, `{"$month": X}`, `{"$day": X}`, `{"$hour": X}`, `{"$minute": X}`, `{"$second": X}`, `{"$milli": X}`, `{"$weekday": X}`, `{"$merge": [{"a": 1}, X]}`, `{"$merge": [X, {"a": 1}]}`, `{"$merge": X}`,
	}
}

// TestStrictNothing: an operator marked N comes to null if an argument comes to nothing, whatever the others are; but not ahead of their errors (P5.3).
func TestStrictNothing(t *testing.T) {
	for _, s := range strictCalls() {
		for _, x := range []string{`null`, `"$z"`, `"$n"`, `"$$ROOT.a.b"`, `{"$at": [[], 0]}`, `{"$literal": null}`} {
			wantRows(t, sample(), []row{{replace(s, x), `null`}})
		}
	}
	wantRows(t, sample(), []row{
		{`{"$add": ["x", null]}`, `null`}, {`{"$add": [null, "x"]}`, `null`}, {`{"$concat": [1, null, {}]}`, `null`}, {`{"$at": [7, null]}`, `null`}, {`{"$slice": [null, "x", {}]}`, `null`}, {`{"$subtract": ["$z", "$t"]}`, `null`}, {`{"$add": ["$t", "$t", "$z"]}`, `null`}, {`{"$multiply": [9223372036854775807, 2, null]}`, `null`}, {`{"$range": [null, "x"]}`, `null`},
		{`{"$add": [null, {"$divide": [1, 0]}]}`, `ErrExprZero`}, {`{"$concat": ["$z", {"$abs": "x"}]}`, `ErrExprKind`}, {`{"$add": ["x", {"$divide": [1, 0]}]}`, `ErrExprZero`}, {`{"$at": [7, {"$mod": [1, 0]}]}`, `ErrExprZero`},
	})
}

// strictTakes are, for each of the operators marked N, one argument X, others fine, and the kinds that it may be of.
func strictTakes() map[string][]int {
	number, text, dates, lists := []int{api.KindInt}, []int{api.KindText}, []int{api.KindDate}, []int{api.KindList}
	return map[string][]int{
		`{"$add": [1, X]}`: {api.KindInt, api.KindDate}, `{"$add": [X, 1]}`: {api.KindInt, api.KindDate}, `{"$add": X}`: {api.KindInt, api.KindDate}, `{"$add": [{"$toDate": 1}, 2, X]}`: number, `{"$add": [X, {"$toDate": 1}]}`: number,
		`{"$multiply": [2, 3, X]}`: number, `{"$multiply": [X, 2]}`: number, `{"$subtract": [X, 1]}`: {api.KindInt, api.KindDate}, `{"$subtract": [1, X]}`: number, `{"$subtract": [{"$toDate": 1}, X]}`: {api.KindInt, api.KindDate}, `{"$subtract": [X, {"$toDate": 1}]}`: dates,
		`{"$divide": [X, 1]}`: number, `{"$divide": [1, X]}`: number, `{"$mod": [X, 1]}`: number, `{"$mod": [1, X]}`: number, `{"$abs": X}`: number,
		`{"$concat": ["a", X]}`: text, `{"$concat": [X, "a"]}`: text, `{"$lower": X}`: text, `{"$upper": X}`: text, `{"$length": X}`: text, `{"$part": [X, 1, 1]}`: text, `{"$part": ["a", X, 1]}`: number, `{"$part": ["a", 1, X]}`: number, `{"$find": [X, "a"]}`: text, `{"$find": ["a", X]}`: text, `{"$split": [X, "a"]}`: text, `{"$split": ["a", X]}`: text,
		`{"$size": X}`: lists, `{"$at": [X, 0]}`: lists, `{"$at": [[1], X]}`: number, `{"$slice": [X, 0, 1]}`: lists, `{"$slice": [[1], X, 1]}`: number, `{"$slice": [[1], 0, X]}`: number, `{"$join": [[1], X]}`: lists, `{"$join": [X, [1]]}`: lists, `{"$reverse": X}`: lists, `{"$range": [X, 9]}`: number, `{"$range": [0, X]}`: number,
		`{"$toInt": X}`: {api.KindInt, api.KindDate, api.KindBool}, `{"$toText": X}`: {api.KindInt, api.KindText, api.KindBool}, `{"$toDate": X}`: {api.KindInt, api.KindDate}, `{"$merge": [{"a": 1}, X]}`: {api.KindDoc}, `{"$merge": [X, {"a": 1}]}`: {api.KindDoc},
		`{"$year": X}`: dates, `{"$month": X}`: dates, `{"$day": X}`: dates, `{"$hour": X}`: dates, `{"$minute": X}`: dates, `{"$second": X}`: dates, `{"$milli": X}`: dates, `{"$weekday": X}`: dates,
	}
}

// TestStrictKinds: of an argument of another kind than the table says ErrExprKind (P5.3).
func TestStrictKinds(t *testing.T) {
	for s, takes := range strictTakes() {
		for _, v := range kinds() {
			want := api.ErrExprKind
			for _, k := range takes {
				if k == v.Kind {
					want = api.OK
				}
			}
			if v.Kind == api.KindNull {
				want = api.OK
			}
			if _, e := eval(t, val(replace(s, `"$x"`)), doc(of("x", v))); e != want {
				t.Errorf("%s of %s: %v, want %v", s, show(v), e, want)
			}
		}
	}
	wantRows(t, sample(), []row{ // ahead of what else is wrong
		{`{"$add": [9223372036854775807, 1, "x"]}`, `ErrExprKind`}, {`{"$add": [9223372036854775807, 1, "$t", "$t"]}`, `ErrExprKind`}, {`{"$multiply": [9223372036854775807, 2, "x"]}`, `ErrExprKind`}, {`{"$divide": ["x", 0]}`, `ErrExprKind`}, {`{"$mod": ["$t", 0]}`, `ErrExprKind`}, {`{"$subtract": [-9223372036854775808, "$t"]}`, `ErrExprKind`},
	})
}
