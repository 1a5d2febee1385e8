package expr_test

import (
	"strings"
	"testing"

	"coffret/api"
	"coffret/expr"
)

func wantParse(t *testing.T, v api.Value, want api.Errno) {
	t.Helper()
	if x, e := expr.Parse(v); e != want || (x != nil) != (want == api.OK) {
		t.Errorf("Parse of %.200s: %v %v, want %v", show(v), x, e, want)
	}
}

// TestParseRight: value.Right's error comes first (P5.1).
func TestParseRight(t *testing.T) {
	deep := func(v api.Value, n int) api.Value {
		for range n {
			v = list(v)
		}
		return v
	}
	for _, x := range []struct {
		v    api.Value
		want api.Errno
	}{
		{api.Value{}, api.ErrValueKind},
		{list(api.Value{}), api.ErrValueKind},
		{api.Value{Kind: 12}, api.ErrValueKind},
		{api.Value{Kind: -1}, api.ErrValueKind},
		{api.Value{Kind: api.KindInt, Text: "x"}, api.ErrValueKind},
		{txt("\xff"), api.ErrValueKind},
		{txt("$\xff"), api.ErrValueKind},
		{doc(of("a", num(1)), of("a", num(2))), api.ErrValueName},
		{doc(of("", num(1))), api.ErrValueName},
		{doc(of("$nothing", list(api.Value{Kind: 99}))), api.ErrValueKind},
		{list(txt("$"), api.Value{}), api.ErrValueKind},
		{doc(of("$literal", flag(true)), of("$literal", flag(true))), api.ErrValueName},
		{op("$literal", api.Value{}), api.ErrValueKind},
		{deep(num(1), api.MaxDepth), api.OK},
		{deep(num(1), api.MaxDepth+1), api.ErrValueDeep},
		{txt(strings.Repeat("x", api.MaxDoc-5)), api.OK},
		{txt(strings.Repeat("x", api.MaxDoc-4)), api.ErrBig},
		{txt("$" + strings.Repeat("x", api.MaxDoc-4)), api.ErrBig},
		{txt("$" + strings.Repeat("x", api.MaxDoc-6)), api.ErrExprForm},
	} {
		wantParse(t, x.v, x.want)
	}
}

// TestParseTexts: variables, fields, and what stands for itself (P5.1).
func TestParseTexts(t *testing.T) {
	full := strings.Repeat("n", api.MaxName)
	for s, want := range map[string]api.Errno{
		"$": api.ErrExprForm, "$$": api.ErrExprForm, "$$$": api.ErrExprForm, "$.": api.ErrExprForm, "$a.": api.ErrExprForm, "$.a": api.ErrExprForm, "$a..b": api.ErrExprForm, "$a.$b": api.ErrExprForm, "$\x00": api.ErrExprForm, "$a\x00": api.ErrExprForm,
		"$$x": api.ErrExprForm, "$$root": api.ErrExprForm, "$$ROOT.": api.ErrExprForm, "$$ROOT..a": api.ErrExprForm, "$$ROOT.$a": api.ErrExprForm, "$$.ROOT": api.ErrExprForm, "$$this": api.ErrExprForm, "$$value": api.ErrExprForm, "$$$ROOT": api.ErrExprForm, "$$ROOT.a\x00": api.ErrExprForm, "$$ROOTa": api.ErrExprForm, "$$ ROOT": api.ErrExprForm,
		"$a": 0, "$a.b": 0, "$0": 0, "$ROOT": 0, "$this": 0, "$a$": 0, "$ ": 0, "$é.é": 0, "$$ROOT": 0, "$$ROOT.a": 0, "$$ROOT.ROOT.0": 0, "$" + full: 0, "$$ROOT." + full: 0, "$" + full + "n": api.ErrExprForm, "$$ROOT." + full + "n": api.ErrExprForm,
		"": 0, "a": 0, "a$": 0, " $": 0, ".": 0, "\x00": 0, "a$$b": 0,
		"$1.2.3.4.5.6.7.8.9.10": 0, "$1.2.3.4.5.6.7.8.9.10.11": api.ErrExprForm, "$$ROOT.2.3.4.5.6.7.8.9.10": 0, "$$ROOT.2.3.4.5.6.7.8.9.10.11": api.ErrExprForm,
	} {
		wantParse(t, txt(s), want)
		wantParse(t, list(num(1), txt(s)), want)
		wantParse(t, doc(of("a", num(1)), of("b", txt(s))), want)
		wantParse(t, call("$add", num(1), txt(s)), want)
		wantParse(t, op("$not", txt(s)), want)
		wantParse(t, op("$literal", txt(s)), api.OK)
	}
}

// named is a document of so many fields.
func named(n int, v api.Value) api.Value {
	d := doc()
	for i := range n {
		d.Doc = append(d.Doc, of("f"+string(rune('0'+i/100))+string(rune('0'+i/10%10))+string(rune('0'+i%10)), v))
	}
	return d
}

// TestParseMany: lists and documents of MaxConds expressions, and of one more (P5.1).
func TestParseMany(t *testing.T) {
	for n, want := range map[int]api.Errno{0: 0, 1: 0, 2: 0, api.MaxConds - 1: 0, api.MaxConds: 0, api.MaxConds + 1: api.ErrExprForm, 2 * api.MaxConds: api.ErrExprForm} {
		for _, v := range []api.Value{num(1), txt("$a"), list()} {
			wantParse(t, list(many(v, n)...), want)
			wantParse(t, list(num(0), list(many(v, n)...)), want)
			wantParse(t, named(n, v), want)
			wantParse(t, doc(of("a", named(n, v))), want)
			wantParse(t, op("$literal", list(many(v, n)...)), api.OK)
			wantParse(t, op("$literal", named(n, v)), api.OK)
		}
	}
}

// TestParseDocs: which names there may be (P5.1).
func TestParseDocs(t *testing.T) {
	for s, want := range map[string]api.Errno{
		`{}`: 0, `{"a": 1}`: 0, `{"a": {}}`: 0, `{"a$": 1}`: 0, `{"a.b": 1}`: 0, `{" $add": 1}`: 0, `{"a": {"$abs": 1}, "b": {"$abs": 2}}`: 0,
		`{"$nothing": 1}`: api.ErrExprForm, `{"$": 1}`: api.ErrExprForm, `{"$$": 1}`: api.ErrExprForm, `{"$$ROOT": 1}`: api.ErrExprForm, `{"$ADD": 1}`: api.ErrExprForm, `{"$add ": 1}`: api.ErrExprForm, `{"$input": 1}`: api.ErrExprForm,
		`{"a": 1, "$b": 2}`: api.ErrExprForm, `{"$abs": 1, "b": 2}`: api.ErrExprForm, `{"a": 1, "$abs": 2}`: api.ErrExprForm, `{"$abs": 1, "$not": 2}`: api.ErrExprForm, `{"$literal": 1, "a": 2}`: api.ErrExprForm, `{"a": {"$nothing": 1}}`: api.ErrExprForm, `[{"$nothing": 1}]`: api.ErrExprForm, `{"$abs": {"$nothing": 1}}`: api.ErrExprForm, `{"$and": [false, {"$nothing": 1}]}`: api.ErrExprForm,
		`{"$literal": {"$nothing": 1}}`: 0, `{"$literal": ["$", {"a": 1, "$b": 2}]}`: 0, `{"$literal": []}`: 0, `{"$abs": {"$literal": "$"}}`: 0,
	} {
		wantParse(t, val(s), want)
	}
	for _, v := range kinds() {
		wantParse(t, v, api.OK)
	}
}

// TestParseCounts: how many arguments each operator takes; a value that is no list is one (P5.1).
func TestParseCounts(t *testing.T) {
	const more = -1
	for name, n := range map[string]int{
		"$add": more, "$multiply": more, "$subtract": 2, "$divide": 2, "$mod": 2, "$abs": 1, "$min": more, "$max": more,
		"$concat": more, "$lower": 1, "$upper": 1, "$length": 1, "$part": 3, "$find": 2, "$split": 2,
		"$size": 1, "$at": 2, "$slice": 3, "$join": more, "$reverse": 1, "$range": 2, "$has": 2,
		"$eq": 2, "$ne": 2, "$gt": 2, "$gte": 2, "$lt": 2, "$lte": 2, "$cmp": 2, "$and": more, "$or": more, "$not": 1, "$cond": 3, "$ifNull": 2,
		"$type": 1, "$toInt": 1, "$toText": 1, "$toBool": 1, "$toDate": 1,
		"$year": 1, "$month": 1, "$day": 1, "$hour": 1, "$minute": 1, "$second": 1, "$milli": 1, "$weekday": 1, "$merge": more,
	} {
		for _, have := range []int{0, 1, 2, 3, 4, 5, api.MaxConds, api.MaxConds + 1} {
			want := api.ErrExprForm
			if have == n || n == more && have > 0 && have <= api.MaxConds {
				want = api.OK
			}
			wantParse(t, call(name, many(num(1), have)...), want)
		}
		for _, v := range append(kinds(), txt("$a"), op("$abs", num(1)), doc()) {
			want := api.ErrExprForm
			if n == 1 || n == more {
				want = api.OK
			}
			if v.Kind != api.KindList {
				wantParse(t, op(name, v), want)
			}
		}
		wantParse(t, doc(of(name, list(num(1))), of("a", num(1))), api.ErrExprForm)
		wantParse(t, doc(of(strings.ToUpper(name), num(1))), api.ErrExprForm)
		wantParse(t, doc(of(name+"s", num(1))), api.ErrExprForm)
	}
}

// TestParseBound: `$map`, `$filter`, `$reduce` take a document of just three fields, and bind names (P5.1).
func TestParseBound(t *testing.T) {
	for s, want := range map[string]api.Errno{
		`{"input": 1, "as": "x", "LAST": 1}`: 0, `{"LAST": "$$x", "as": "x", "input": 1}`: 0, `{"as": "x", "LAST": "$$x.a.0", "input": "$l"}`: 0, `{"input": 1, "as": "x", "LAST": "$$ROOT"}`: 0, `{"input": 1, "as": "this", "LAST": "$$this"}`: 0, `{"input": 1, "as": "é", "LAST": "$$é"}`: 0, `{"input": 1, "as": "0", "LAST": "$$0.0"}`: 0, `{"input": 1, "as": "root", "LAST": "$$root"}`: 0,
		`{"input": 1, "as": "x", "LAST": {"$map": {"input": "$$x", "as": "y", "in": ["$$x", "$$y"]}}}`: 0, `{"input": 1, "as": "x", "LAST": {"$map": {"input": "$$x", "as": "x", "in": "$$x"}}}`: 0, `{"input": {"$map": {"input": 1, "as": "y", "in": "$$y"}}, "as": "x", "LAST": "$$x"}`: 0,
		`{"input": 1, "as": "x", "LAST": "$$y"}`: api.ErrExprForm, `{"input": "$$x", "as": "x", "LAST": "$$x"}`: api.ErrExprForm, `{"input": 1, "as": "x", "LAST": "$"}`: api.ErrExprForm, `{"input": "$", "as": "x", "LAST": 1}`: api.ErrExprForm, `{"input": {"$nothing": 1}, "as": "x", "LAST": 1}`: api.ErrExprForm, `{"input": 1, "as": "x", "LAST": {"$nothing": 1}}`: api.ErrExprForm,
		`{"input": 1, "as": "x", "LAST": [{"$map": {"input": "$$x", "as": "y", "in": 1}}, "$$y"]}`: api.ErrExprForm,
		`{"input": 1, "as": "ROOT", "LAST": 1}`:                                                    api.ErrExprForm, `{"input": 1, "as": "", "LAST": 1}`: api.ErrExprForm, `{"input": 1, "as": "$x", "LAST": 1}`: api.ErrExprForm, `{"input": 1, "as": "$$x", "LAST": 1}`: api.ErrExprForm, `{"input": 1, "as": "a.b", "LAST": 1}`: api.ErrExprForm, `{"input": 1, "as": ".", "LAST": 1}`: api.ErrExprForm, `{"input": 1, "as": "\u0000", "LAST": 1}`: api.ErrExprForm,
		`{"input": 1, "as": 1, "LAST": 1}`: api.ErrExprForm, `{"input": 1, "as": null, "LAST": 1}`: api.ErrExprForm, `{"input": 1, "as": ["x"], "LAST": 1}`: api.ErrExprForm, `{"input": 1, "as": {"@bytes": "x"}, "LAST": 1}`: api.ErrExprForm, `{"input": 1, "as": {"$literal": "x"}, "LAST": 1}`: api.ErrExprForm,
		`{"input": 1, "as": "x"}`: api.ErrExprForm, `{"input": 1, "LAST": 1}`: api.ErrExprForm, `{"as": "x", "LAST": 1}`: api.ErrExprForm, `{"input": 1, "as": "x", "LAST": 1, "more": 1}`: api.ErrExprForm, `{"input": 1, "as": "x", "other": 1}`: api.ErrExprForm, `{"Input": 1, "as": "x", "LAST": 1}`: api.ErrExprForm, `{"input": 1, "as": "x", "initial": 1}`: api.ErrExprForm,
		`{}`: api.ErrExprForm, `5`: api.ErrExprForm, `"$l"`: api.ErrExprForm, `[]`: api.ErrExprForm, `null`: api.ErrExprForm, `[1, "x", 1]`: api.ErrExprForm, `[{"input": 1, "as": "x", "LAST": 1}]`: api.ErrExprForm,
	} {
		for name, last := range map[string]string{"$map": "in", "$filter": "cond"} {
			wantParse(t, op(name, val(strings.ReplaceAll(s, "LAST", last))), want)
		}
		wantParse(t, op("$map", val(strings.ReplaceAll(s, "LAST", "cond"))), api.ErrExprForm)
		wantParse(t, op("$filter", val(strings.ReplaceAll(s, "LAST", "in"))), api.ErrExprForm)
	}
	for n, want := range map[int]api.Errno{api.MaxName: api.OK, api.MaxName + 1: api.ErrExprForm} {
		s := strings.Repeat("n", n)
		wantParse(t, op("$map", doc(of("input", num(1)), of("as", txt(s)), of("in", txt("$$"+s)))), want)
	}
}

// TestParseReduce: `this` and `value` are bound in `in` alone (P5.1).
func TestParseReduce(t *testing.T) {
	for s, want := range map[string]api.Errno{
		`{"input": 1, "initial": 1, "in": 1}`: 0, `{"in": ["$$this", "$$value.a", "$$ROOT"], "initial": [], "input": "$l"}`: 0, `{"input": {"$reduce": {"input": 1, "initial": 1, "in": "$$this"}}, "initial": 1, "in": {"$reduce": {"input": "$$this", "initial": "$$value", "in": ["$$this", "$$value"]}}}`: 0,
		`{"input": "$$this", "initial": 1, "in": 1}`: api.ErrExprForm, `{"input": "$$value", "initial": 1, "in": 1}`: api.ErrExprForm, `{"input": 1, "initial": "$$this", "in": 1}`: api.ErrExprForm, `{"input": 1, "initial": "$$value", "in": 1}`: api.ErrExprForm, `{"input": 1, "initial": 1, "in": "$$x"}`: api.ErrExprForm, `{"input": "$", "initial": 1, "in": 1}`: api.ErrExprForm, `{"input": 1, "initial": "$", "in": 1}`: api.ErrExprForm, `{"input": 1, "initial": 1, "in": "$"}`: api.ErrExprForm,
		`{"input": 1, "initial": 1}`: api.ErrExprForm, `{"input": 1, "in": 1}`: api.ErrExprForm, `{"initial": 1, "in": 1}`: api.ErrExprForm, `{"input": 1, "initial": 1, "in": 1, "as": "x"}`: api.ErrExprForm, `{"input": 1, "as": "x", "in": "$$x"}`: api.ErrExprForm, `{"input": 1, "initial": 1, "cond": 1}`: api.ErrExprForm,
		`{}`: api.ErrExprForm, `7`: api.ErrExprForm, `"$l"`: api.ErrExprForm, `[{"input": 1, "initial": 1, "in": 1}]`: api.ErrExprForm,
	} {
		wantParse(t, op("$reduce", val(s)), want)
	}
	wantParse(t, val(`{"$map": {"input": 1, "as": "x", "in": {"$reduce": {"input": "$$x", "initial": "$$x", "in": "$$x"}}}}`), api.OK)
	wantParse(t, val(`[{"$reduce": {"input": 1, "initial": 1, "in": 1}}, "$$this"]`), api.ErrExprForm)
}

// TestParseExamples are those of the chapter (P5.1).
func TestParseExamples(t *testing.T) {
	for _, s := range []string{`{"$nothing": 1}`, `"$"`, `"$$x"`, `{"$add": []}`, `{"$eq": 1}`, `{"a": 1, "$b": 2}`} {
		wantParse(t, val(s), api.ErrExprForm)
	}
}
