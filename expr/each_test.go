package expr_test

import (
	"strings"
	"testing"

	"coffret/api"
)

// TestMap: what an expression comes to of each element (P5.3).
func TestMap(t *testing.T) {
	wantRows(t, sample(), []row{
		{`{"$map": {"input": "$l", "as": "x", "in": {"$add": ["$$x", "$a"]}}}`, `[6, 7, 8]`},
		{`{"$map": {"in": "$$x", "as": "x", "input": "$ln"}}`, `[null, 4, null, 2, 4]`},
		{`{"$map": {"input": "$d.l", "as": "x", "in": {"k": "$$x.k"}}}`, `[{"k": 1}, {"k": 2}, {}, {}]`},
		{`{"$map": {"input": "$l", "as": "x", "in": "$z"}}`, `[null, null, null]`},
		{`{"$map": {"input": "$le", "as": "x", "in": {"$divide": [1, 0]}}}`, `[]`},
		{`{"$map": {"input": ["$z", 1], "as": "x", "in": {"$type": "$$x"}}}`, `["null", "int"]`},
		{`{"$map": {"input": [[1, 2], [3]], "as": "x", "in": {"$map": {"input": "$$x", "as": "y", "in": ["$$x", "$$y", "$$ROOT.a"]}}}}`, `[[[[1, 2], 1, 5], [[1, 2], 2, 5]], [[[3], 3, 5]]]`},
		{`{"$map": {"input": [1, 2], "as": "x", "in": [{"$map": {"input": [7, "$$x"], "as": "x", "in": "$$x"}}, "$$x"]}}`, `[[[7, 1], 1], [[7, 2], 2]]`},
		{`{"$map": {"input": {"$map": {"input": "$l", "as": "x", "in": {"$multiply": ["$$x", 2]}}}, "as": "x", "in": {"$add": ["$$x", 1]}}}`, `[3, 5, 7]`},
		{`{"$map": {"input": "$l", "as": "this", "in": "$$this"}}`, `[1, 2, 3]`},
		{`{"$map": {"input": [{"ROOT": 1}], "as": "x", "in": ["$$x.ROOT", "$ROOT"]}}`, `[[1, null]]`},
		{`{"$map": {"input": [2, 0, "x"], "as": "x", "in": {"$divide": [4, "$$x"]}}}`, `ErrExprZero`},
		{`{"$map": {"input": [2, "x", 0], "as": "x", "in": {"$divide": [4, "$$x"]}}}`, `ErrExprKind`},
	})
}

// TestFilter: the elements of which a condition holds (P5.3).
func TestFilter(t *testing.T) {
	wantRows(t, sample(), []row{
		{`{"$filter": {"input": "$l", "as": "x", "cond": {"$gt": ["$$x", 1]}}}`, `[2, 3]`},
		{`{"$filter": {"cond": "$$x", "input": [0, 1, null, "", false, true, [], "$z"], "as": "x"}}`, `[1, "", true, []]`},
		{`{"$filter": {"input": "$ln", "as": "x", "cond": true}}`, `[null, 4, null, 2, 4]`},
		{`{"$filter": {"input": "$d.l", "as": "x", "cond": "$$x.k"}}`, `[{"k": 1, "m": [1]}, {"k": 2}]`},
		{`{"$filter": {"input": "$l", "as": "x", "cond": "$z"}}`, `[]`},
		{`{"$filter": {"input": "$le", "as": "x", "cond": {"$divide": [1, 0]}}}`, `[]`},
		{`{"$filter": {"input": [[1, 2], [], [3]], "as": "x", "cond": {"$size": {"$filter": {"input": "$$x", "as": "x", "cond": {"$lt": ["$$x", 3]}}}}}}`, `[[1, 2]]`},
		{`{"$filter": {"input": [4, 0, "x"], "as": "x", "cond": {"$divide": [4, "$$x"]}}}`, `ErrExprZero`},
	})
}

// TestReduce: what there was, and an element, again and again (P5.3).
func TestReduce(t *testing.T) {
	wantRows(t, sample(), []row{
		{`{"$reduce": {"input": "$l", "initial": 10, "in": {"$subtract": ["$$value", "$$this"]}}}`, `4`},
		{`{"$reduce": {"in": {"$concat": ["$$this", "$$value"]}, "initial": "", "input": ["a", "b", "c"]}}`, `"cba"`},
		{`{"$reduce": {"input": "$le", "initial": "$a", "in": {"$divide": [1, 0]}}}`, `5`},
		{`{"$reduce": {"input": "$l", "initial": [], "in": {"$join": [["$$this"], "$$value"]}}}`, `[3, 2, 1]`},
		{`{"$reduce": {"input": "$l", "initial": "$z", "in": {"$ifNull": ["$$value", "$$this"]}}}`, `1`},
		{`{"$reduce": {"input": "$le", "initial": "$z", "in": 1}}`, `missing`},
		{`{"$reduce": {"input": "$l", "initial": 1, "in": "$z"}}`, `missing`},
		{`{"$reduce": {"input": [1, 2], "initial": "$z", "in": {"$concat": [{"$type": "$$value"}, ","]}}}`, `"text,"`},
		{`{"$reduce": {"input": [1], "initial": "$z", "in": {"$type": "$$value"}}}`, `"missing"`},
		{`{"$reduce": {"input": [[1, 2], [3]], "initial": 0, "in": {"$add": ["$$value", {"$reduce": {"input": "$$this", "initial": "$$value", "in": {"$add": ["$$value", "$$this"]}}}]}}}`, `9`},
		{`{"$reduce": {"input": [1, 2], "initial": [], "in": {"$join": ["$$value", {"$map": {"input": [5], "as": "this", "in": ["$$this", {"$size": "$$value"}]}}, ["$$this"]]}}}`, `[[5, 0], 1, [5, 2], 2]`},
		{`{"$map": {"input": [1, 2], "as": "value", "in": {"$reduce": {"input": ["$$value"], "initial": "$$value", "in": ["$$this", "$$value", "$a"]}}}}`, `[[1, 1, 5], [2, 2, 5]]`},
		{`{"$reduce": {"input": [0], "initial": 1, "in": {"$divide": ["$$value", "$$this"]}}}`, `ErrExprZero`},
		{`{"$reduce": {"input": [{"k": {"j": 3}}], "initial": {"q": 1}, "in": ["$$this.k.j", "$$value.q", "$$value.z"]}}`, `[3, 1, null]`},
	})
}

// TestInput: of nothing null, of no list ErrExprKind; nothing more is worked out then (P5.3).
func TestInput(t *testing.T) {
	for _, s := range []string{`{"$map": {"input": X, "as": "x", "in": {"$divide": [1, 0]}}}`, `{"$filter": {"input": X, "as": "x", "cond": {"$divide": [1, 0]}}}`, `{"$reduce": {"input": X, "initial": {"$divide": [1, 0]}, "in": {"$divide": [1, 0]}}}`, `{"$reduce": {"in": {"$divide": [1, 0]}, "initial": {"$divide": [1, 0]}, "input": X}}`} {
		for _, x := range []string{`null`, `"$z"`, `"$n"`, `{"$at": [[], 0]}`} {
			wantRows(t, sample(), []row{{replace(s, x), `null`}, {replace(`["$z", X]`, replace(s, x)), `[null, null]`}})
		}
		for _, v := range kinds() {
			want := api.ErrExprKind
			switch v.Kind {
			case api.KindNull:
				want = api.OK
			case api.KindList:
				want = api.ErrExprZero
			}
			if _, e := eval(t, val(replace(s, `"$x"`)), doc(of("x", v))); e != want {
				t.Errorf("%s of %s: %v", s, show(v), e)
			}
		}
		wantRows(t, sample(), []row{{replace(s, `{"$mod": ["x", 0]}`), `ErrExprKind`}, {replace(s, `{"$mod": [1, 0]}`), `ErrExprZero`}})
	}
	wantRows(t, sample(), []row{ // initial ahead of in
		{`{"$reduce": {"in": {"$divide": [1, 0]}, "initial": {"$abs": "x"}, "input": [1]}}`, `ErrExprKind`}, {`{"$reduce": {"in": {"$abs": "x"}, "initial": {"$divide": [1, 0]}, "input": [1]}}`, `ErrExprZero`}, {`{"$reduce": {"in": {"$abs": "x"}, "initial": {"$divide": [1, 0]}, "input": []}}`, `ErrExprZero`},
	})
}

// TestNested: as many names within one another as a value may be deep (P5.3).
func TestNested(t *testing.T) {
	v := list()
	for i := range 9 {
		v.List = append(v.List, txt("$$"+string(rune('a'+i))))
	}
	want := list()
	for i := range 9 {
		want.List = append(want.List, num(i))
	}
	for i := 8; i >= 0; i-- {
		v = op("$map", doc(of("input", list(num(i))), of("as", txt(string(rune('a'+i)))), of("in", v)))
		want = list(want)
	}
	wantValue(t, v, doc(), want, api.OK)
	s := strings.Repeat(`{"$map": {"input": ["$$x"], "as": "x", "in": [`, 6)
	s = strings.Replace(s, "$$x", "$a", 1) + `"$$x"` + strings.Repeat(`]}}`, 6)
	wantRows(t, example(), []row{{s, strings.Repeat("[", 12) + "5" + strings.Repeat("]", 12)}})
}
