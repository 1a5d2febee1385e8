package filter_test

import (
	"strings"
	"testing"

	"coffret/api"
)

// TestParseExamples are those of the chapter (P6.1).
func TestParseExamples(t *testing.T) {
	for s, want := range map[string]api.Errno{`{"$x": 1}`: api.ErrFilterOp, `{"a": {"$x": 1}}`: api.ErrFilterOp, `{"a": {"$gt": 1, "b": 2}}`: api.ErrFilterOp, `{"$and": []}`: api.ErrFilterForm, `{"a.": 1}`: api.ErrFilterForm, `5`: api.ErrFilterForm} {
		wantParse(t, val(s), want)
	}
}

// TestParseRight: what may be no value is no filter, ahead of all else (P6.1).
func TestParseRight(t *testing.T) {
	wantParse(t, api.Value{}, api.ErrValueKind)
	wantParse(t, api.Value{Kind: api.KindInt, Text: "x"}, api.ErrValueKind)
	wantParse(t, val(`{"": 1}`), api.ErrValueName)
	wantParse(t, val(`{"a": 1, "a": 2}`), api.ErrValueName)
	wantParse(t, doc(of("$x", num(1)), of("b", txt("\xff"))), api.ErrValueKind)
	wantParse(t, doc(of("$x", num(1)), of("b", doc(of("c\x00", num(1))))), api.ErrValueName)
	wantParse(t, doc(of("$and", list(api.Value{}))), api.ErrValueKind)
	wantParse(t, doc(of("a", doc(of("$exists", api.Value{Kind: api.KindBool, Int: 2})))), api.ErrValueKind)
	wantParse(t, doc(of("$x", txt(strings.Repeat("x", api.MaxDoc)))), api.ErrBig)
	for n, want := range map[int]api.Errno{api.MaxDoc - 5 - 3 - 5: api.OK, api.MaxDoc - 5 - 3 - 5 + 1: api.ErrBig} {
		wantParse(t, doc(of("a", txt(strings.Repeat("x", n)))), want)
	}
}

// TestParseDeep: filters are as deep as values may be (P6.1).
func TestParseDeep(t *testing.T) {
	v, w := val(`{"a": 5}`), val(`{"a": [5]}`)
	for range 9 {
		v, w = op("$and", list(v)), op("$nor", list(w))
	}
	wantParse(t, v, api.OK)
	wantParse(t, w, api.OK)
	wantParse(t, op("$or", list(v)), api.ErrValueDeep)
	v = val(`{"$gt": 1}`)
	for range 9 {
		v = op("$elem", op("$not", v))
	}
	wantParse(t, op("a", v), api.OK)
	wantParse(t, op("a", op("$not", v)), api.ErrValueDeep)
}

// TestParseFields: names of fields (P6.1).
func TestParseFields(t *testing.T) {
	for _, v := range kinds() {
		if v.Kind != api.KindDoc {
			wantParse(t, v, api.ErrFilterForm)
		}
	}
	for s, want := range map[string]api.Errno{
		`{}`: 0, `{"a": 1}`: 0, `{"a.b.c": 1, "a": 1, "0": 1, "a.0.b": 1}`: 0, `{"é": 1, "_id": 2, " ": 3, "a$": 4}`: 0, `{"1.2.3.4.5.6.7.8.9.10": 1}`: 0,
		`{"1.2.3.4.5.6.7.8.9.10.11": 1}`: api.ErrFilterForm, `{".": 1}`: api.ErrFilterForm, `{".a": 1}`: api.ErrFilterForm, `{"a..b": 1}`: api.ErrFilterForm, `{"a.$b": 1}`: api.ErrFilterForm, `{"a.$": 1}`: api.ErrFilterForm,
		`{"$": 1}`: api.ErrFilterOp, `{"$eq": 1}`: api.ErrFilterOp, `{"$not": {"a": 1}}`: api.ErrFilterOp, `{"$elem": {"a": 1}}`: api.ErrFilterOp, `{"$And": []}`: api.ErrFilterOp, `{"$and.a": 1}`: api.ErrFilterOp, `{"$a.b": 1}`: api.ErrFilterOp, `{"$gt": 1, "$x": 2}`: api.ErrFilterOp,
		`{"$text": "x"}`: 0, `{"a": 1, "$text": ""}`: 0, `{"$text": 5}`: api.ErrFilterForm, `{"$text": ["x"]}`: api.ErrFilterForm, `{"$text": null}`: api.ErrFilterForm, `{"$text": {"@bytes": "x"}}`: api.ErrFilterForm, `{"a": {"$text": "x"}}`: api.ErrFilterOp, `{"a": {"$not": {"$text": "x"}}}`: api.ErrFilterOp, `{"a": {"$gt": 1, "$text": "x"}}`: api.ErrFilterOp,
		`{"$expr": 1}`: 0, `{"$expr": "$a"}`: 0, `{"$expr": []}`: 0, `{"$expr": {"$and": [1]}}`: 0, `{"$expr": "$"}`: api.ErrExprForm, `{"$expr": {"$x": 1}}`: api.ErrExprForm, `{"$expr": {"$eq": 1}}`: api.ErrExprForm, `{"$expr": "$$x"}`: api.ErrExprForm,
	} {
		wantParse(t, val(s), want)
	}
}

// TestParseJoined: `$and`, `$or` and `$nor` are with a list of filters (P6.1).
func TestParseJoined(t *testing.T) {
	for s, want := range map[string]api.Errno{
		`[{}]`: 0, `[{"a": 1}, {"b": {"$gt": 1}}, {"$and": [{}]}, {"$or": [{}]}, {"$nor": [{}]}, {"$expr": 1}]`: 0,
		`[]`: api.ErrFilterForm, `{}`: api.ErrFilterForm, `{"a": 1}`: api.ErrFilterForm, `null`: api.ErrFilterForm, `"x"`: api.ErrFilterForm, `[5]`: api.ErrFilterForm, `[[]]`: api.ErrFilterForm, `[[{"a": 1}]]`: api.ErrFilterForm, `[{"a": 1}, null]`: api.ErrFilterForm, `[{"$and": []}]`: api.ErrFilterForm, `[{"a.": 1}]`: api.ErrFilterForm,
		`[{"$text": "x"}]`: api.ErrFilterForm, `[{"$and": [{"$text": "x"}]}]`: api.ErrFilterForm, `[{"$x": 1}]`: api.ErrFilterOp, `[{"$eq": 1}]`: api.ErrFilterOp, `[{"a": 1}, {"b": {"$x": 1}}]`: api.ErrFilterOp, `[{"$expr": "$"}]`: api.ErrExprForm, `[{"$expr": {"$x": 1}}, 5]`: api.ErrExprForm,
	} {
		for _, name := range []string{"$and", "$or", "$nor"} {
			wantParse(t, op(name, val(s)), want)
		}
	}
}

// takes are, for each test, what it may be with (OK), and what not.
func takes() map[string]map[string]api.Errno {
	form, which := api.ErrFilterForm, api.ErrFilterOp
	choice := map[string]api.Errno{`[]`: 0, `[1]`: 0, `["x", null, [1], {"$x": 1}]`: 0, `{}`: form, `{"a": [1]}`: form, `5`: form, `null`: form, `"x"`: form}
	return map[string]map[string]api.Errno{
		"$in": choice, "$nin": choice, "$all": choice,
		"$prefix": {`"x"`: 0, `""`: 0, `5`: form, `null`: form, `["x"]`: form, `{"@bytes": "x"}`: form, `{"$eq": "x"}`: form},
		"$mod":    {`[2, 1]`: 0, `[-2, -1]`: 0, `[1, 0]`: 0, `[2, 5]`: 0, `[0, 1]`: form, `[0, 0]`: form, `[2]`: form, `[]`: form, `[2, 1, 1]`: form, `[2, "x"]`: form, `["x", 2]`: form, `[{"@date": 2}, 1]`: form, `[2, {"@date": 1}]`: form, `[null, 1]`: form, `[2, null]`: form, `2`: form, `{}`: form, `"x"`: form},
		"$type":   {`"min"`: 0, `"null"`: 0, `"int"`: 0, `"text"`: 0, `"doc"`: 0, `"list"`: 0, `"bytes"`: 0, `"id"`: 0, `"bool"`: 0, `"date"`: 0, `"max"`: 0, `"missing"`: form, `""`: form, `"Int"`: form, `"number"`: form, `"int "`: form, `5`: form, `["int"]`: form, `null`: form, `{"@bytes": "int"}`: form},
		"$exists": {`true`: 0, `false`: 0, `1`: form, `0`: form, `null`: form, `"true"`: form, `[true]`: form, `{}`: form},
		"$size":   {`0`: 0, `3`: 0, `-1`: 0, `{"@date": 3}`: form, `true`: form, `"3"`: form, `[3]`: form, `null`: form, `{"$gt": 3}`: form},
		"$elem": {`{}`: 0, `{"a": 1}`: 0, `{"$gt": 1}`: 0, `{"$gt": 1, "$lt": 5}`: 0, `{"$and": [{}]}`: 0, `{"$or": [{"a": 1}], "b": 2}`: 0, `{"$nor": [{}]}`: 0, `{"$expr": 1}`: 0, `{"$elem": {"$elem": {}}}`: 0, `{"a.b": {"$elem": {"k": 1}}}`: 0, `{"$not": {"$gt": 1}}`: 0,
			`5`: form, `null`: form, `[]`: form, `[{"a": 1}]`: form, `"x"`: form, `{"a.": 1}`: form, `{"$text": "x"}`: form, `{"a": 1, "$text": "x"}`: form, `{"$and": []}`: form, `{"$and": [{"$text": "x"}]}`: form, `{"$size": "x"}`: form, `{"$expr": "$"}`: api.ErrExprForm,
			`{"$x": 1}`: which, `{"$gt": 1, "a": 1}`: which, `{"a": 1, "$gt": 1}`: which, `{"$gt": 1, "$and": [{}]}`: which, `{"$and": [{}], "$gt": 1}`: which, `{"$expr": 1, "$x": 1}`: which, `{"$eq": 1, "$text": "x"}`: which, `{"$nor": [{"$x": 1}]}`: which},
		"$not": {`{"$gt": 1}`: 0, `{"$gt": 1, "$lt": 0}`: 0, `{"$not": {"$not": {"$eq": {}}}}`: 0, `{"$elem": {"a": 1}}`: 0,
			`{}`: form, `{"a": 1}`: form, `{"a": 1, "$gt": 1}`: form, `5`: form, `null`: form, `[{"$gt": 1}]`: form, `"x"`: form, `{"$size": "x"}`: form, `{"$elem": 5}`: form,
			`{"$x": 1}`: which, `{"$and": [{}]}`: which, `{"$expr": 1}`: which, `{"$text": "x"}`: which, `{"$gt": 1, "a": 1}`: which, `{"$elem": {"$x": 1}}`: which},
	}
}

// TestParseTests: what each test is with, and at which depth (P6.1).
func TestParseTests(t *testing.T) {
	for name, l := range takes() {
		for s, want := range l {
			wantParse(t, at("a", name, val(s)), want)
			wantParse(t, at("a", "$not", op(name, val(s))), want)
			wantParse(t, at("a", "$elem", op(name, val(s))), want)
			wantParse(t, op("$nor", list(at("b.c", name, val(s)))), want)
			wantParse(t, op("a", doc(of("$gt", num(1)), of(name, val(s)))), want)
		}
	}
	for _, name := range []string{"$eq", "$ne", "$gt", "$gte", "$lt", "$lte"} {
		for _, v := range append(kinds(), doc(), list(), val(`{"$x": 1}`), val(`{"a.": 1}`)) {
			wantParse(t, at("a", name, v), api.OK)
		}
	}
	for _, name := range []string{"$", "$x", "$and", "$or", "$nor", "$expr", "$text", "$Eq", "$eq ", "$regex"} {
		wantParse(t, at("a", name, num(1)), api.ErrFilterOp)
		wantParse(t, op("a", doc(of("$gt", num(1)), of(name, num(1)))), api.ErrFilterOp)
	}
	for _, v := range kinds() {
		wantParse(t, op("a", v), api.OK)
	}
	wantParse(t, val(`{"a": {}, "b": {"c": 1, "$x": 2}, "c": {"a.": {"$y": 1}}, "d": [{"$x": 1}]}`), api.OK)
}

// TestParseFirst: what is wrong first is told, a name ahead of its value (P6.1).
func TestParseFirst(t *testing.T) {
	for s, want := range map[string]api.Errno{
		`{"$x": 1, "a.": 1}`: api.ErrFilterOp, `{"a.": 1, "$x": 1}`: api.ErrFilterForm, `{"a.": {"$x": 1}}`: api.ErrFilterForm, `{"a": {"$x": 1}, "b.": 1}`: api.ErrFilterOp, `{"a": {"$size": "x", "$x": 1}}`: api.ErrFilterForm, `{"a": {"$x": 1, "$size": "x"}}`: api.ErrFilterOp,
		`{"$expr": "$", "$x": 1}`: api.ErrExprForm, `{"$x": 1, "$expr": "$"}`: api.ErrFilterOp, `{"$expr": "$", "a.": 1}`: api.ErrExprForm, `{"a.": 1, "$expr": "$"}`: api.ErrFilterForm, `{"a": {"$elem": {"$expr": "$", "$x": 1}}, "$y": 1}`: api.ErrExprForm,
		`{"$and": [{"$expr": "$"}, {"$x": 1}]}`: api.ErrExprForm, `{"$and": [{"$x": 1}, {"$expr": "$"}]}`: api.ErrFilterOp, `{"$and": [{"$x": 1}, 5]}`: api.ErrFilterOp, `{"$and": [5, {"$x": 1}]}`: api.ErrFilterForm, `{"$and": [{"a": 1}], "$or": [], "$x": 1}`: api.ErrFilterForm, `{"$text": 5, "$x": 1}`: api.ErrFilterForm,
		`{"a": {"$not": {"$x": 1}, "$size": "x"}}`: api.ErrFilterOp, `{"a": {"$elem": {"b.": 1, "$x": 1}}}`: api.ErrFilterForm, `{"a": {"$elem": {"$x": 1, "b.": 1}}}`: api.ErrFilterOp, `{"a": {"b": 1, "$x": 1}, "$y": 1}`: api.ErrFilterOp,
	} {
		wantParse(t, val(s), want)
	}
}

// TestParseLimits: MaxConds at and one past (P6.1).
func TestParseLimits(t *testing.T) {
	for n, want := range map[int]api.Errno{api.MaxConds: api.OK, api.MaxConds + 1: api.ErrFilterForm} {
		wantParse(t, fields("n", num(1), n), want)
		wantParse(t, op("$and", list(fields("n", num(1), n))), want)
		wantParse(t, at("a", "$elem", fields("n", num(1), n)), want)
		for _, name := range []string{"$and", "$or", "$nor"} {
			wantParse(t, op(name, list(many(doc(), n)...)), want)
		}
		for _, name := range []string{"$in", "$nin", "$all"} {
			wantParse(t, at("a", name, list(many(num(1), n)...)), want)
		}
		wantParse(t, at("a", "$eq", list(many(num(1), n)...)), api.OK)
		wantParse(t, at("a", "$eq", fields("$n", num(1), n)), api.OK)
	}
	for n, want := range map[int]api.Errno{api.MaxConds: api.ErrFilterOp, api.MaxConds + 1: api.ErrFilterForm} {
		v := fields("$x", num(1), n)
		wantParse(t, v, want)
		wantParse(t, op("a", v), want)
		wantParse(t, at("a", "$not", v), want)
		wantParse(t, at("a", "$elem", v), want)
		wantParse(t, op("$or", list(many(op("$x", num(1)), n)...)), want)
	}
	var l []api.Value
	for range api.MaxConds { // ten times as many conditions in all
		l = append(l, fields("n", num(1), 10))
	}
	wantParse(t, op("$and", list(l...)), api.OK)
}
