package expr_test

import (
	"slices"
	"strings"
	"testing"

	"coffret/api"
	"coffret/expr"
	"coffret/value"
)

// numbers are a `$range`: 3 steps, and one for each of them.
func numbers(n int) api.Value { return call("$range", num(0), num(n)) }

// mapped is a `$map` over numbers: 4 steps, and of each number one and those of in.
func mapped(n int, in api.Value) api.Value {
	return op("$map", doc(of("input", numbers(n)), of("as", txt("x")), of("in", in)))
}

// busy takes 19906 steps: 1 of a list, 1 of `$size`, 4 + 100 * (1 + 198) of a `$map`.
func busy(more ...api.Value) api.Value {
	return list(append([]api.Value{call("$size", mapped(100, call("$size", numbers(194))))}, more...)...)
}

// TestWork: MaxWork steps may be taken, and no more (P5.3).
func TestWork(t *testing.T) {
	const left = api.MaxWork - 19906
	for _, x := range []struct {
		what string
		v    api.Value
		free int // steps that the others take are these less
	}{
		{"numbers", num(1), 1},
		{"texts", txt("a"), 1},
		{"fields", txt("$a"), 1},
		{"missing fields", txt("$z.z"), 1},
		{"variables", txt("$$ROOT.a"), 1},
		{"an empty list", list(), 1},
		{"an empty document", doc(), 1},
		{"a literal", op("$literal", list(many(num(1), 50)...)), 1},
		{"a list", list(num(1), num(2)), 3},
		{"a document", doc(of("a", num(1)), of("b", list(num(2)))), 4},
		{"a call", call("$add", num(1), num(2)), 3},
		{"a call of one", op("$abs", num(1)), 2},
		{"a call of nothing", call("$add", txt("$z"), num(1), num(2)), 4},
		{"an empty range", numbers(0), 3},
		{"a range", numbers(10), 13},
		{"no range", call("$range", num(0), txt("$z")), 3},
		{"and, decided", call("$and", num(0), num(1), num(2)), 2},
		{"and, not decided", call("$and", num(1), num(1), num(0)), 4},
		{"or, decided", call("$or", num(0), num(1), num(2)), 3},
		{"cond", call("$cond", num(1), num(2), list(num(3))), 3},
		{"cond, else", call("$cond", num(0), num(2), list(num(3))), 4},
		{"ifNull", call("$ifNull", num(1), list(num(2))), 2},
		{"ifNull, null", call("$ifNull", txt("$z"), list(num(2))), 4},
		{"map", mapped(5, num(1)), 4 + 5*2},
		{"map of a call", mapped(5, op("$abs", txt("$$x"))), 4 + 5*3},
		{"map of nothing", op("$map", doc(of("input", txt("$z")), of("as", txt("x")), of("in", num(1)))), 2},
		{"filter", op("$filter", doc(of("input", numbers(5)), of("as", txt("x")), of("cond", num(1)))), 4 + 5*2},
		{"reduce", op("$reduce", doc(of("input", numbers(5)), of("initial", num(0)), of("in", txt("$$this")))), 5 + 5*2},
		{"reduce of nothing", op("$reduce", doc(of("input", txt("$z")), of("initial", num(0)), of("in", txt("$$this")))), 2},
		{"the elements of a list that are no expressions", op("$size", txt("$l")), 2},
	} {
		fill := many(num(0), left-x.free)
		if got, e := eval(t, busy(append(fill, x.v)...), example()); e != api.OK || len(got.List) != len(fill)+2 {
			t.Errorf("%s: too many steps: %v", x.what, e)
		}
		if _, e := eval(t, busy(append(append(fill, num(0)), x.v)...), example()); e != api.ErrExprWork {
			t.Errorf("%s: too few steps: %v", x.what, e)
		}
	}
}

// TestWorkAnew: steps are those of one Eval (P5.3).
func TestWorkAnew(t *testing.T) {
	for more, want := range map[int]api.Errno{api.MaxWork - 19906: api.OK, api.MaxWork - 19906 + 1: api.ErrExprWork} {
		x, e := expr.Parse(busy(many(num(0), more)...))
		if e != api.OK {
			t.Fatal(e)
		}
		for range 3 {
			if _, e := x.Eval(doc()); e != want {
				t.Errorf("%d more: %v", more, e)
			}
		}
	}
}

// TestWorkOfPlain: no value is so big that it takes more than MaxWork steps to come to itself (P5.5).
func TestWorkOfPlain(t *testing.T) {
	v := list()
	for range 2 {
		inner := list()
		for range 82 {
			inner.List = append(inner.List, list(many(null(), api.MaxConds)...))
		}
		v.List = append(v.List, inner)
	}
	if n := value.Size(v); n > api.MaxDoc || n < api.MaxDoc-400 {
		t.Fatal(n)
	}
	wantValue(t, v, doc(), v, api.OK)
}

// TestWorkOrder: ErrExprWork comes ahead of a step, ErrBig behind what is put (P5.3).
func TestWorkOrder(t *testing.T) {
	left := many(num(0), api.MaxWork-19906)
	if _, e := eval(t, busy(append(left, op("$divide", list(num(1), num(0))))...), doc()); e != api.ErrExprWork {
		t.Error(e)
	}
	left[len(left)-1] = call("$divide", num(1), num(0))
	if _, e := eval(t, busy(left...), doc()); e != api.ErrExprWork {
		t.Error(e)
	}
	left[len(left)-3] = call("$divide", num(1), num(0))
	if _, e := eval(t, busy(left...), doc()); e != api.ErrExprZero {
		t.Error(e)
	}
	if _, e := eval(t, busy(numbers(1<<40)), doc()); e != api.ErrExprWork {
		t.Error(e)
	}
	if _, e := eval(t, list(numbers(1<<40), busy()), doc()); e != api.ErrBig {
		t.Error(e)
	}
	wantValue(t, call("$range", num(api.MinInt), num(api.MaxInt)), doc(), api.Value{}, api.ErrBig)
	wantValue(t, op("$map", doc(of("input", numbers(1<<40)), of("as", txt("x")), of("in", num(1)))), doc(), api.Value{}, api.ErrBig)
}

// TestRangeBytes: the last range that is not too big (P5.3).
func TestRangeBytes(t *testing.T) {
	n, bytes := 0, 5
	for bytes <= api.MaxDoc {
		bytes += 2 + len(show(num(n))) + 8
		n++
	}
	n-- // that many are not too many
	if got, e := eval(t, numbers(n), doc()); e != api.OK || len(got.List) != n || value.Size(got) > api.MaxDoc {
		t.Error(n, e)
	}
	if _, e := eval(t, numbers(n+1), doc()); e != api.ErrBig {
		t.Error(n+1, e)
	}
}

// long is a text of so many bytes.
func long(n int) api.Value { return txt(strings.Repeat("x", n)) }

// TestBytes: what a list, a document, a call comes to is at most MaxDoc bytes, as soon as it is more (P5.3).
func TestBytes(t *testing.T) {
	const fits = api.MaxDoc - 5 // bytes of a text that is not too big
	for _, x := range []struct {
		v     string
		bytes int // those of the text x at most
	}{
		{`["$x"]`, fits - 8}, {`["$x", "$z"]`, fits - 11}, {`["$z", "$x"]`, fits - 11}, {`[["$x"]]`, fits - 16}, {`[1, "$x"]`, fits - 19}, {`[0,1,2,3,4,5,6,7,8,9,"$x"]`, fits - 5 - 11*10 - 4},
		{`{"k": "$x"}`, fits - 8}, {`{"k": "$x", "j": "$z"}`, fits - 8}, {`{"j": "$n", "k": "$x"}`, fits - 11}, {`{"k": {"long": "$x"}}`, fits - 8 - 11}, {`{"é": "$x"}`, fits - 9},
		{`{"$concat": "$x"}`, fits}, {`{"$concat": ["$x", "abc"]}`, fits - 3}, {`{"$concat": ["a", "$x", "bc"]}`, fits - 3}, {`{"$lower": "$x"}`, fits}, {`{"$upper": "$x"}`, fits}, {`{"$toText": "$x"}`, fits}, {`{"$part": ["$x", 1, 100000]}`, fits + 1}, {`{"$split": ["$x", "y"]}`, fits - 8},
		{`{"$cond": [1, "$x", 2]}`, fits}, {`{"$cond": [0, 1, "$x"]}`, fits}, {`{"$ifNull": ["$x", 1]}`, fits}, {`{"$ifNull": ["$z", "$x"]}`, fits}, {`{"$min": ["$x"]}`, fits}, {`{"$max": ["$x", 1]}`, fits}, {`{"$max": "$l"}`, fits}, {`{"$at": ["$l", 0]}`, fits},
		{`{"$slice": ["$l", 0, 1]}`, fits - 8}, {`{"$join": "$l"}`, fits - 8}, {`{"$join": ["$l", [null]]}`, fits - 11}, {`{"$join": [[null], "$l"]}`, fits - 11}, {`{"$reverse": "$l"}`, fits - 8}, {`{"$merge": "$d"}`, fits - 8}, {`{"$merge": ["$d", {"a": null}]}`, fits - 11}, {`{"$merge": ["$d", {"k": null}]}`, fits - 8}, {`{"$merge": [{"a": null}, "$d", {"k": null}]}`, fits - 11},
		{`{"$map": {"input": "$l", "as": "x", "in": "$$x"}}`, fits - 8}, {`{"$map": {"input": [1], "as": "y", "in": "$x"}}`, fits - 8}, {`{"$filter": {"input": "$l", "as": "x", "cond": 1}}`, fits - 8}, {`{"$reduce": {"input": [], "initial": "$x", "in": 1}}`, fits}, {`{"$reduce": {"input": [1], "initial": "$x", "in": 1}}`, fits}, {`{"$reduce": {"input": [1], "initial": 1, "in": "$x"}}`, fits},
	} {
		for n := x.bytes - 1; n <= x.bytes+2; n++ {
			want := api.OK
			if n > x.bytes {
				want = api.ErrBig
			}
			d := doc(of("x", long(n)), of("l", list(long(n))), of("n", null()), of("d", doc(of("k", long(n)))))
			got, e := eval(t, val(x.v), d)
			if e != want || value.Size(got) > api.MaxDoc {
				t.Errorf("%s of %d bytes: %v, want %v", x.v, n, e, want)
			}
		}
	}
}

// TestBytesOfOthers: what no list, document or call comes to, and what is used up, may be bigger (P5.3).
func TestBytesOfOthers(t *testing.T) {
	l := many(long(1000), 200)
	d := doc(of("x", long(3*api.MaxDoc)), of("l", list(l...)), of("d", doc(of("a", long(api.MaxDoc)), of("b", num(1)))), of("o", list(num(1))))
	wantValue(t, txt("$x"), d, long(3*api.MaxDoc), api.OK)
	wantValue(t, txt("$l"), d, list(l...), api.OK)
	wantValue(t, txt("$$ROOT"), d, d, api.OK)
	wantRows(t, d, []row{
		{`{"$length": "$x"}`, `196608`}, {`{"$size": "$l"}`, `200`}, {`{"$size": [["$$ROOT"]]}`, `ErrBig`}, {`{"$find": ["$x", "xx"]}`, `0`}, {`{"$part": ["$x", 3, 3]}`, `"xxx"`}, {`{"$part": ["$x", 196607, 3]}`, `"x"`}, {`{"$slice": ["$l", 9, 0]}`, `[]`}, {`{"$eq": ["$l", "$l"]}`, `true`}, {`{"$lt": ["$x", "$l"]}`, `true`}, {`{"$has": ["$x", "$l"]}`, `false`}, {`{"$type": "$$ROOT"}`, `"doc"`}, {`{"$not": "$x"}`, `false`}, {`{"$and": ["$x", "$l"]}`, `true`}, {`{"$min": ["$x", 1]}`, `1`}, {`{"$cond": ["$x", 1, "$x"]}`, `1`}, {`{"$toInt": "$x"}`, `ErrExprKind`}, {`{"$add": ["$x", "$z"]}`, `null`},
		{`{"$size": {"$map": {"input": "$l", "as": "y", "in": {"$length": "$$y"}}}}`, `200`}, {`{"$size": {"$filter": {"input": "$l", "as": "y", "cond": 0}}}`, `0`}, {`{"$reduce": {"input": "$l", "initial": 0, "in": {"$add": ["$$value", {"$length": "$$this"}]}}}`, `200000`},
		{`{"$filter": {"input": "$l", "as": "y", "cond": 1}}`, `ErrBig`}, {`{"$reverse": "$l"}`, `ErrBig`}, {`{"$merge": "$d"}`, `ErrBig`}, {`{"$merge": ["$d", {"a": 1}]}`, `ErrBig`}, {`{"$split": ["$x", "x"]}`, `ErrBig`}, {`{"$concat": ["$x", "$x"]}`, `ErrBig`}, {`{"$lower": "$x"}`, `ErrBig`}, {`{"$literal": "$x"}`, `"$x"`},
	})
}

// TestBytesSoon: ErrBig comes ahead of what would be worked out next, and of what would make it smaller again (P5.3).
func TestBytesSoon(t *testing.T) {
	d := doc(of("x", long(40000)), of("y", long(25000)), of("w", long(70000)))
	wantRows(t, d, []row{
		{`["$x", "$x", {"$divide": [1, 0]}]`, `ErrBig`}, {`["$x", {"$divide": [1, 0]}, "$x"]`, `ErrExprZero`}, {`["$x", "$y", {"$divide": [1, 0]}]`, `ErrExprZero`}, {`{"a": "$x", "b": "$x", "c": {"$divide": [1, 0]}}`, `ErrBig`}, {`{"a": "$x", "c": {"$divide": [1, 0]}, "b": "$x"}`, `ErrExprZero`}, {`[["$x", "$x"], {"$divide": [1, 0]}]`, `ErrBig`},
		{`{"$concat": ["$x", "$x", {"$divide": [1, 0]}]}`, `ErrExprZero`}, {`{"$concat": ["$x", "$x", 5]}`, `ErrExprKind`}, {`{"$concat": ["$x", "$x", null]}`, `null`},
		{`{"$map": {"input": [1, 2, 0], "as": "i", "in": {"$cond": [{"$divide": [1, "$$i"]}, "$x", "$x"]}}}`, `ErrBig`}, {`{"$map": {"input": [1, 0, 2], "as": "i", "in": {"$cond": [{"$divide": [1, "$$i"]}, "$x", "$x"]}}}`, `ErrExprZero`}, {`{"$filter": {"input": ["$x", "$y"], "as": "i", "cond": {"$divide": [1, 0]}}}`, `ErrExprZero`},
	})
	wantValue(t, val(`{"$merge": [{"a": "$x"}, {"b": "$y"}, {"a": 1}]}`), d, doc(of("a", num(1)), of("b", long(25000))), api.OK)
	wantValue(t, val(`{"$merge": [{"a": "$x"}, {"b": "$x"}, {"a": 1}]}`), d, api.Value{}, api.ErrBig)
	wantValue(t, val(`{"$merge": [{"a": "$x"}, {"a": 1}, {"b": "$x"}]}`), d, doc(of("a", num(1)), of("b", long(40000))), api.OK)
	wantValue(t, val(`{"$merge": [{"a": "$x", "b": "$y"}, {"b": 1, "a": "$x"}, {"c": "$y"}]}`), d, doc(of("a", long(40000)), of("b", num(1)), of("c", long(25000))), api.OK)
	wantRows(t, d, []row{
		{`{"$reduce": {"input": [1], "initial": "$w", "in": {"$divide": [1, 0]}}}`, `ErrBig`}, {`{"$reduce": {"input": [1, 2], "initial": 1, "in": {"$cond": [{"$eq": ["$$this", 1]}, "$x", {"$divide": [1, 0]}]}}}`, `ErrExprZero`}, {`{"$reduce": {"input": [1, 2], "initial": ["$x"], "in": ["$$value", "$$value"]}}`, `ErrBig`},
	})
}

// TestBytesWhole: lists and documents of just MaxDoc bytes pass through all that makes new ones (P5.3).
func TestBytesWhole(t *testing.T) {
	l := list(many(null(), 8000)...)
	l.List = append(l.List, long(api.MaxDoc-value.Size(l)-2-4-5))
	m := doc()
	for i := range 3000 {
		m.Doc = append(m.Doc, of("n"+show(num(i)), null()))
	}
	m.Doc = append(m.Doc, of("last", long(api.MaxDoc-value.Size(m)-2-4-5)))
	if value.Size(l) != api.MaxDoc || value.Size(m) != api.MaxDoc {
		t.Fatal("not at the limit", value.Size(l), value.Size(m))
	}
	d := doc(of("l", l), of("m", m))
	back := slices.Clone(l.List)
	slices.Reverse(back)
	for s, want := range map[string]api.Value{
		`{"$join": "$l"}`: l, `{"$join": ["$l", []]}`: l, `{"$reverse": "$l"}`: list(back...), `{"$slice": ["$l", 0, 10000]}`: l, `{"$map": {"input": "$l", "as": "x", "in": "$$x"}}`: l, `{"$filter": {"input": "$l", "as": "x", "cond": true}}`: l,
		`{"$merge": "$m"}`: m, `{"$merge": ["$m", "$m"]}`: m, `{"$ifNull": ["$l", 0]}`: l, `{"$reduce": {"input": "$l", "initial": "$m", "in": "$$value"}}`: m,
	} {
		wantValue(t, val(s), d, want, api.OK)
	}
	wantRows(t, d, []row{{`{"$join": ["$l", [null]]}`, `ErrBig`}, {`{"$merge": ["$m", {"a": null}]}`, `ErrBig`}, {`["$l"]`, `ErrBig`}, {`{"a": "$m"}`, `ErrBig`}})
}
