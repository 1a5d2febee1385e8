package update_test

import (
	"strconv"
	"strings"
	"testing"

	"coffret/api"
)

// The errors that Parse tells most.
const (
	form = api.ErrUpdateForm
	none = api.ErrUpdateOp
	id   = api.ErrUpdateId
	both = api.ErrUpdateConflict
)

// wantParsed: Parse tells that of updates without filters.
func wantParsed(t *testing.T, l map[string]api.Errno) {
	t.Helper()
	for s, want := range l {
		wantParse(t, val(s), api.Value{}, want)
	}
}

// TestParseExamples are those of the chapter (P7.1).
func TestParseExamples(t *testing.T) {
	wantParsed(t, map[string]api.Errno{`{"$set": {"a": 1, "a.b": 2}}`: both, `{"$set": {"_id": 2}}`: id, `{"$x": {}}`: none, `{"$inc": {"l": 1}}`: 0, `{"$inc": {"a": "x"}}`: form, `{"b": 1}`: 0, `{"_id": 2, "b": 1}`: 0})
}

// TestParseRight: what may be no value is no update, ahead of all else (P7.1).
func TestParseRight(t *testing.T) {
	wrong := []struct {
		v api.Value
		e api.Errno
	}{
		{api.Value{Kind: 99}, api.ErrValueKind}, {api.Value{Int: 1}, api.ErrValueKind}, {api.Value{Kind: api.KindInt, Text: "x"}, api.ErrValueKind}, {op("", num(1)), api.ErrValueName}, {val(`{"a": 1, "a": 2}`), api.ErrValueName}, {val(`{"$set": {"a": 1, "a": 2}}`), api.ErrValueName}, {doc(of("$x", num(1)), of("b", txt("\xff"))), api.ErrValueKind}, {op("a", sized(api.MaxDoc)), api.ErrBig}, {list(op("as", txt("\xff"))), api.ErrValueKind},
	}
	for _, x := range wrong {
		wantParse(t, x.v, api.Value{}, x.e)
		wantParse(t, val(`{"a": 1}`), x.v, x.e)
		wantParse(t, num(1), x.v, x.e)
		for _, y := range wrong {
			wantParse(t, x.v, y.v, x.e)
		}
	}
	wantParse(t, api.Value{}, api.Value{}, api.ErrValueKind)
	for n, want := range map[int]api.Errno{api.MaxDoc: api.OK, api.MaxDoc + 1: api.ErrBig} {
		wantParse(t, op("a", sized(n-8)), api.Value{}, want)
		wantParse(t, at("$set", "a", sized(n-19)), api.Value{}, want)
		wantParse(t, doc(), list(doc(of("as", txt("a")), of("elem", op("k", sized(n-37))))), want)
	}
	v := num(1)
	for range 18 {
		v = list(v)
	}
	wantParse(t, at("$set", "a", v), api.Value{}, api.OK)
	wantParse(t, at("$pull", "a", v), api.Value{}, api.OK)
	wantParse(t, at("$set", "a", list(v)), api.Value{}, api.ErrValueDeep)
}

// TestParseKinds: an update is a document, filters are a list or missing (P7.1).
func TestParseKinds(t *testing.T) {
	for _, v := range kinds() {
		want := form
		if v.Kind == api.KindDoc {
			want = api.OK
		}
		wantParse(t, v, api.Value{}, want)
		if v.Kind != api.KindList {
			wantParse(t, doc(), v, form)
			wantParse(t, op("$x", num(1)), v, form)
		}
	}
	wantParse(t, num(1), val(`[{"as": "e", "elem": {"$x": 1}}]`), form)
	wantParse(t, op("$x", num(1)), val(`[{"as": "e", "elem": {"$x": 1}}]`), api.ErrFilterOp)
	wantParse(t, op("$x", num(1)), list(), none)
}

// TestParseFilters: each is just a name and what `$elem` takes (P7.1).
func TestParseFilters(t *testing.T) {
	which, wrong := api.ErrFilterOp, api.ErrFilterForm
	for s, want := range map[string]api.Errno{
		`[]`: 0, `[{"as": "e", "elem": {}}]`: 0, `[{"as": "e", "elem": {"k": 1}}, {"as": "é x", "elem": {"$gt": 1}}, {"as": "0", "elem": {"$or": [{}]}}]`: 0, `[{"elem": {}, "as": "e"}]`: 0, `[{"as": "a$", "elem": {}}]`: 0, `[{"as": "_id", "elem": {}}]`: 0, `[{"as": "]", "elem": {}}]`: 0, `[{"as": "e", "elem": {}}, {"as": "E", "elem": {}}]`: 0,
		`[5]`: form, `[[]]`: form, `[null]`: form, `[{}]`: form, `[{"as": "e"}]`: form, `[{"elem": {}}]`: form, `[{"as": "e", "elem": {}, "x": 1}]`: form, `[{"as": "e", "Elem": {}}]`: form, `[{"as": 5, "elem": {}}]`: form, `[{"as": {"@bytes": "e"}, "elem": {}}]`: form, `[{"as": ["e"], "elem": {}}]`: form,
		`[{"as": "", "elem": {}}]`: form, `[{"as": "$e", "elem": {}}]`: form, `[{"as": "$", "elem": {}}]`: form, `[{"as": "e.f", "elem": {}}]`: form, `[{"as": ".", "elem": {}}]`: form, `[{"as": "e\u0000", "elem": {}}]`: form,
		`[{"as": "e", "elem": 5}]`: form, `[{"as": "e", "elem": []}]`: form, `[{"as": "e", "elem": null}]`: form, `[{"as": "e", "elem": [{"k": 1}]}]`: form, `[{"as": "e", "elem": "x"}]`: form,
		`[{"as": "e", "elem": {}}, {"as": "e", "elem": {}}]`: form, `[{"as": "e", "elem": {}}, {"as": "f", "elem": {}}, {"as": "e", "elem": {"$x": 1}}]`: form,
		`[{"as": "e", "elem": {"$x": 1}}]`: which, `[{"as": "e", "elem": {"$gt": 1, "k": 1}}]`: which, `[{"as": "e", "elem": {"k.": 1}}]`: wrong, `[{"as": "e", "elem": {"$text": "x"}}]`: wrong, `[{"as": "e", "elem": {"$and": []}}]`: wrong, `[{"as": "e", "elem": {"$expr": "$"}}]`: api.ErrExprForm,
		`[{"as": "e", "elem": {"$x": 1}}, 5]`: which, `[5, {"as": "e", "elem": {"$x": 1}}]`: form, `[{"as": "e", "elem": {"$x": 1}}, {"as": "e", "elem": {}}]`: which, `[{"as": "", "elem": {"$x": 1}}]`: form, `[{"as": "e", "elem": {"k.": 1}}, {"as": "f", "elem": {"$x": 1}}]`: wrong,
	} {
		wantParse(t, doc(), val(s), want)
		wantParse(t, val(`{"$set": {"a": 1}}`), val(s), want)
		if want != api.OK {
			wantParse(t, val(`{"$set": {"a": 1, "a.b": 1}, "$x": 1}`), val(s), want)
		}
	}
	for n, want := range map[int]api.Errno{api.MaxConds: api.OK, api.MaxConds + 1: form} {
		l := list()
		for i := range n {
			l.List = append(l.List, doc(of("as", txt("e"+strconv.Itoa(i))), of("elem", doc())))
		}
		wantParse(t, doc(), l, want)
		wantParse(t, val(`{"$set": {"l.$[e99]": 1}}`), l, want)
	}
	many := many(doc(of("as", txt("e")), of("elem", val(`{"$x": 1}`))), api.MaxConds+1)
	wantParse(t, doc(), list(many...), form)
	wantParse(t, doc(), list(many[1:]...), which)
	for n, want := range map[int]api.Errno{api.MaxName: api.OK, api.MaxName + 1: form} {
		wantParse(t, doc(), list(doc(of("as", txt(strings.Repeat("e", n))), of("elem", doc()))), want)
	}
}

// TestParseReplacement: none of its names begins with `$` (P7.1).
func TestParseReplacement(t *testing.T) {
	wantParsed(t, map[string]api.Errno{
		`{}`: 0, `{"a": 1}`: 0, `{"_id": {"$x": 1}}`: 0, `{"a.b": 1, "a": {"$set": {"b": 1}}, "é$": 1, ".": 2}`: 0,
		`{"a": 1, "$set": {"b": 1}}`: form, `{"a": 1, "b": 2, "$x": 1, "c": 3}`: form, `{"a": 1, "$": 1}`: form,
	})
	wantParse(t, val(`{"a": 1}`), val(`[{"as": "e", "elem": {}}]`), api.OK)
}

// TestParseOperators: each name is an operator's, with a document of ways (P7.1).
func TestParseOperators(t *testing.T) {
	for _, name := range strings.Fields("$set $unset $inc $mul $min $max $rename $push $add $pull $pop $setOnInsert") {
		wantParse(t, op(name, doc()), api.Value{}, api.OK)
		wantParse(t, op(name+" ", doc()), api.Value{}, none)
		wantParse(t, op(strings.ToUpper(name), doc()), api.Value{}, none)
		for _, v := range kinds() {
			if v.Kind != api.KindDoc {
				wantParse(t, op(name, v), api.Value{}, form)
			}
		}
	}
	wantParsed(t, map[string]api.Errno{
		`{"$": {}}`: none, `{"$each": {}}`: none, `{"$set": {}, "a": 1}`: none, `{"$set": {}, "set": {}}`: none, `{"$and": [{}]}`: none, `{"$addToSet": {}}`: none, `{"$x": 5}`: none,
		`{"$set": {}, "$inc": {}, "$x": {}}`: none, `{"$set": 5, "$x": {}}`: form, `{"$set": {"a": 1}, "$unset": {"b": 1}, "$inc": {"c": 1}}`: 0,
	})
}

// wantWays: Parse tells that of an operator's ways, whichever it is, with a filter e.
func wantWays(t *testing.T, l map[string]api.Errno) {
	t.Helper()
	filters := val(`[{"as": "e", "elem": {"$gt": 1}}, {"as": "]", "elem": {}}, {"as": "[]", "elem": {}}]`)
	for s, want := range l {
		for _, name := range strings.Fields("$set $unset $inc $mul $min $max $push $add $pull $pop $setOnInsert") {
			wantParse(t, at(name, s, num(1)), filters, want)
		}
	}
}

// TestParseWays: parts as a path's, `$`, `$[]`, `$[name]`; not `_id` first (P7.1).
func TestParseWays(t *testing.T) {
	wantWays(t, map[string]api.Errno{
		"a": 0, "a.b": 0, "a.0.b": 0, "0": 0, "é. ": 0, "a$.b$": 0, "a._id": 0, "_idx": 0, "_id2.a": 0, "a.$": 0, "a.$.b": 0, "a.$[]": 0, "a.$[].b.$[].$[]": 0, "a.$[e]": 0, "a.$[e].$[e].$[]": 0, "a.$[].$.$[e]": 0, "a.$.$[]": 0, "a.$[]].$[[]]": 0, "1.2.3.4.5.6.7.8.9.10": 0, "1.2.3.4.5.6.7.8.9.$": 0,
		"a.": form, ".a": form, ".": form, "a..b": form, "$": form, "$.a": form, "$[]": form, "$[].a": form, "$[e]": form, "$[e].a": form, "$a": form, "a.$b": form, "a.$$": form, "a.$.$": form, "a.$.b.$.c": form, "a.$[f]": form, "a.$[E]": form, "a.$[e": form, "a.$[": form, "a.$e]": form, "a.$[e]x": form, "a.$[e].$[f]": form, "a.$[$e]": form, "a.$[e.f]": form, "a.$ []": form, "a.$]": form, "1.2.3.4.5.6.7.8.9.10.11": form, "1.2.3.4.5.6.7.8.9.10.$": form, "1.2.3.4.5.6.7.8.9.10.": form,
		"_id": id, "_id.a": id, "_id.$": id, "_id.$[e]": id, "_id.0.b": id, "_id.$[f]": form, "_id.": form, "_id.$x": form, "_id.$.$": form,
	})
	wantWays(t, map[string]api.Errno{"a.b" + strings.Repeat(".c", 8): 0, "a.b" + strings.Repeat(".c", 9): form, strings.Repeat("a", api.MaxName): 0, "_id" + strings.Repeat(".c", 9): id, "_id" + strings.Repeat(".c", 10): form})
	wantParse(t, val(`{"$set": {"a.$[e]": 1}}`), api.Value{}, form)
	wantParse(t, val(`{"$set": {"a.$[e]": 1}}`), list(), form)
}

// takes are, for each operator, what it may take, and what not.
func takes() map[string]map[string]api.Errno {
	all := map[string]api.Errno{`1`: 0, `null`: 0, `{}`: 0, `[]`: 0, `{"$x": 1}`: 0, `{"$each": 5}`: 0, `"x"`: 0}
	number := map[string]api.Errno{`1`: 0, `0`: 0, `-9223372036854775808`: 0, `"1"`: form, `null`: form, `true`: form, `{"@date": 1}`: form, `[1]`: form, `{}`: form}
	return map[string]map[string]api.Errno{
		"$set": all, "$unset": all, "$min": all, "$max": all, "$setOnInsert": all, "$inc": number, "$mul": number,
		"$rename": {`"b"`: 0, `"b.c.0"`: 0, `"_idx"`: 0, `"b._id"`: 0, `"1.2.3.4.5.6.7.8.9.10"`: 0, `"1.2.3.4.5.6.7.8.9.10.11"`: form, `""`: form, `"b."`: form, `"$b"`: form, `"b.$"`: form, `"b.$[]"`: form, `"b.$[e]"`: form, `5`: form, `null`: form, `["b"]`: form, `{"@bytes": "b"}`: form, `{}`: form, `"_id"`: id, `"_id.b"`: id, `"_id."`: form, `"_id.$"`: form, `{"@bytes": "_id"}`: form},
		"$push": {`1`: 0, `null`: 0, `[1]`: 0, `{}`: 0, `{"$x": 1}`: 0, `{"$at": 1}`: 0, `{"$at": "x", "$each": 5}`: 0, `{"k": 1, "$each": 5}`: 0, `{"$each": []}`: 0, `{"$each": [1], "$at": 1}`: 0, `{"$each": [1], "$slice": 1, "$sort": -1, "$at": -9223372036854775808}`: 0, `{"$each": [1], "$sort": 1}`: 0,
			`{"$each": 5}`: form, `{"$each": null}`: form, `{"$each": {}}`: form, `{"$each": "x"}`: form, `{"$each": [], "$x": 1}`: form, `{"$each": [], "k": 1}`: form, `{"$each": [], "at": 1}`: form, `{"$each": [], "$at": "1"}`: form, `{"$each": [], "$at": null}`: form, `{"$each": [], "$at": {"@date": 1}}`: form, `{"$each": [], "$slice": true}`: form, `{"$each": [], "$slice": []}`: form, `{"$each": [], "$sort": 0}`: form, `{"$each": [], "$sort": 2}`: form, `{"$each": [], "$sort": -2}`: form, `{"$each": [], "$sort": true}`: form, `{"$each": [], "$sort": {"k": 1}}`: form, `{"$each": [], "$sort": {"@date": 1}}`: form, `{"$each": 5, "$at": 1}`: form},
		"$add":  {`1`: 0, `null`: 0, `[1]`: 0, `{}`: 0, `{"$x": 1}`: 0, `{"k": 1, "$each": 5}`: 0, `{"$each": []}`: 0, `{"$each": [1, 2]}`: 0, `{"$each": 5}`: form, `{"$each": null}`: form, `{"$each": {}}`: form, `{"$each": [], "$at": 1}`: form, `{"$each": [], "k": 1}`: form},
		"$pull": {`1`: 0, `null`: 0, `[1]`: 0, `"$x"`: 0, `{}`: 0, `{"k": 1}`: 0, `{"$gt": 1}`: 0, `{"$and": [{}]}`: 0, `{"$elem": {}}`: 0, `{"$each": []}`: api.ErrFilterOp, `{"$x": 1}`: api.ErrFilterOp, `{"$gt": 1, "k": 1}`: api.ErrFilterOp, `{"k": 1, "$gt": 1}`: api.ErrFilterOp, `{"k.": 1}`: api.ErrFilterForm, `{"$text": "x"}`: api.ErrFilterForm, `{"$size": "x"}`: api.ErrFilterForm, `{"$expr": "$"}`: api.ErrExprForm},
		"$pop":  {`1`: 0, `-1`: 0, `0`: form, `2`: form, `-2`: form, `"1"`: form, `true`: form, `null`: form, `[1]`: form, `{}`: form, `{"@date": 1}`: form},
	}
}

// TestParseTakes: what each operator takes, with any way (P7.1).
func TestParseTakes(t *testing.T) {
	e := val(`[{"as": "e", "elem": {}}]`)
	for name, l := range takes() {
		for s, want := range l {
			wantParse(t, at(name, "a", val(s)), api.Value{}, want)
			wantParse(t, at(name, "a.$x", val(s)), e, form)
			wantParse(t, at(name, "_id", val(s)), e, id)
			wantParse(t, op(name, doc(of("z", val(s)), of("y.$x", num(1)))), e, firstOf(want, form))
			if name != "$rename" {
				wantParse(t, at(name, "a.$[e].$", val(s)), e, want)
			}
		}
	}
	for _, s := range []string{`"b"`, `"_id"`, `5`, `"b.$"`} {
		for _, way := range []string{"a.$", "a.$[]", "a.b.$[e].c"} {
			wantParse(t, at("$rename", way, val(s)), e, form)
		}
	}
}

// TestParseFirst: what is wrong first is told, from the front (P7.1).
func TestParseFirst(t *testing.T) {
	wantParsed(t, map[string]api.Errno{
		`{"$set": {"a.": 1}, "$x": {}}`: form, `{"$x": {}, "$set": {"a.": 1}}`: none, `{"$set": {"_id": 1}, "$x": {}}`: id, `{"$set": {"_id": 1, "a.": 1}}`: id, `{"$set": {"a.": 1, "_id": 1}}`: form, `{"$inc": {"_id": "x"}}`: id, `{"$inc": {"a.": "x"}}`: form, `{"$inc": {"a": "x", "_id": 1}}`: form, `{"$inc": {"_id": 1, "a": "x"}}`: id,
		`{"$pull": {"a": {"$x": 1}, "_id": 1}}`: api.ErrFilterOp, `{"$pull": {"_id": {"$x": 1}}}`: id, `{"$pull": {"a": {"$x": 1}, "b": {"k.": 1}}}`: api.ErrFilterOp, `{"$pull": {"b": {"k.": 1}, "a": {"$x": 1}}}`: api.ErrFilterForm,
		`{"$rename": {"a.$": "_id"}}`: form, `{"$rename": {"_id": "b.$"}}`: id, `{"$rename": {"a": "_id", "b": 5}}`: id, `{"$rename": {"b": 5, "a": "_id"}}`: form,
		`{"$set": {"a": 1, "a.b": 1}, "$inc": {"c": "x"}}`: form, `{"$set": {"a": 1, "a.b": 1}, "$x": {}}`: none, `{"$set": {"a": 1, "a.b": 1, "_id": 1}}`: id, `{"$set": {"a": 1, "a.b": 1}, "$inc": 5}`: form,
	})
}

// TestConflict: no way is another one, or begins it (P7.1).
func TestConflict(t *testing.T) {
	e := val(`[{"as": "e", "elem": {}}, {"as": "f", "elem": {}}]`)
	for s, want := range map[string]api.Errno{
		`{"$set": {"a": 1}, "$inc": {"a": 1}}`: both, `{"$set": {"a": 1}, "$unset": {"a.b.c": 1}}`: both, `{"$set": {"a.b.c": 1}, "$unset": {"a": 1}}`: both, `{"$set": {"a.b": 1, "a.b.c": 1}}`: both, `{"$set": {"a.b.c": 1, "x": 1, "a.b": 1}}`: both, `{"$setOnInsert": {"a": 1}, "$set": {"a": 1}}`: both, `{"$setOnInsert": {"a.b": 1}, "$set": {"a": 1}}`: both,
		`{"$set": {"a": 1, "b": 1, "ab": 1, "a b": 1, "a-b": 1}}`: 0, `{"$set": {"a.b": 1, "a.c": 1, "a.bc": 1, "a.b c": 1, "b.a.b": 1, "b.a.c": 1}}`: 0, `{"$set": {"b": 1, "a.b": 1}}`: 0, `{"$set": {"a.b": 1, "a.bb.c": 1}}`: 0,
		`{"$set": {"a.$": 1}, "$inc": {"a.$": 1}}`: both, `{"$set": {"a.$": 1, "a.$.b": 1}}`: both, `{"$set": {"a.$": 1, "a": 1}}`: both, `{"$set": {"a.$[].b": 1, "a.$[]": 1}}`: both, `{"$set": {"a.$[e].b": 1}, "$inc": {"a.$[e].b": 1}}`: both, `{"$set": {"a": 1, "a.$[e]": 1}}`: both,
		`{"$set": {"a.$": 1, "a.$[]": 1, "a.$[e]": 1, "a.$[f]": 1, "a.0": 1, "a.1": 1, "a.00": 1}}`: 0, `{"$set": {"a.$.b": 1, "a.$[].b.c": 1, "a.$[e].b.c.d": 1, "a.0": 1}}`: 0,
		`{"$rename": {"a": "a"}}`: both, `{"$rename": {"a": "a.b"}}`: both, `{"$rename": {"a.b": "a"}}`: both, `{"$rename": {"a": "b", "c": "b"}}`: both, `{"$rename": {"a": "b", "b": "c"}}`: both, `{"$rename": {"a": "b", "c": "b.d"}}`: both, `{"$rename": {"a": "b"}, "$set": {"b.c": 1}}`: both, `{"$rename": {"a": "b.c"}, "$set": {"b": 1}}`: both, `{"$set": {"b": 1}, "$rename": {"a": "b"}}`: both, `{"$rename": {"a": "b"}, "$set": {"a.c": 1}}`: both,
		`{"$rename": {"a": "b", "c": "d"}, "$set": {"e": 1}}`: 0, `{"$rename": {"a.b": "a.c"}}`: 0, `{"$rename": {"a": "ab"}}`: 0, `{"$set": {"a": "b", "b": "a"}}`: 0,
	} {
		wantParse(t, val(s), e, want)
	}
}

// firstOf is the first of two errors that is one.
func firstOf(a, b api.Errno) api.Errno {
	if a != api.OK {
		return a
	}
	return b
}
