package pipe_test

import (
	"strings"
	"testing"

	"coffret/api"
)

// form is the error that Parse tells most.
const form = api.ErrPipeForm

// TestParseRight: what may be no value is no pipeline, ahead of all else (P8.1).
func TestParseRight(t *testing.T) {
	for _, x := range []struct {
		v api.Value
		e api.Errno
	}{
		{api.Value{}, api.ErrValueKind}, {api.Value{Kind: 99}, api.ErrValueKind}, {api.Value{Kind: api.KindInt, Text: "x"}, api.ErrValueKind}, {op("", num(1)), api.ErrValueName}, {list(num(1), op("", num(1))), api.ErrValueName}, {list(val(`{"$limit": 1, "$limit": 1}`)), api.ErrValueName}, {single("$project", val(`{"a": 1, "a": 1}`)), api.ErrValueName}, {single("$x", txt("\xff")), api.ErrValueKind}, {list(many(api.Value{Kind: 99}, 30)...), api.ErrValueKind}, {single("$x", sized(api.MaxDoc)), api.ErrBig}, {list(sized(api.MaxDoc), api.Value{}), api.ErrBig},
	} {
		wantParse(t, x.v, x.e)
	}
	for n, want := range map[int]api.Errno{api.MaxDoc: api.OK, api.MaxDoc + 1: api.ErrBig} {
		wantParse(t, single("$union", sized(n-21)), want)
		wantParse(t, single("$replace", sized(n-23)), want)
	}
	v := num(1)
	for range 17 {
		v = list(v)
	}
	wantParse(t, single("$match", op("a", v)), api.OK)
	wantParse(t, single("$match", op("a", list(v))), api.ErrValueDeep)
	wantParse(t, single("$project", op("a", v)), api.OK)
	wantParse(t, single("$x", list(list(list(list(v))))), api.ErrValueDeep)
}

// TestParseList: a list of documents of just one field, the name of a stage (P8.1).
func TestParseList(t *testing.T) {
	for _, v := range kinds() {
		want := form
		if v.Kind == api.KindList {
			v, want = list(), api.OK
		}
		wantParse(t, v, want)
	}
	for _, v := range kinds() {
		wantParse(t, list(v), form)
		wantParse(t, list(op("$limit", num(1)), v), form)
	}
	wantParsed(t, map[string]api.Errno{
		`{}`: form, `{"$limit": 1, "$skip": 1}`: form, `{"$limit": 1, "a": 1}`: form, `{"limit": 1}`: form, `{"$Limit": 1}`: form, `{"$limit ": 1}`: form, `{"$": 1}`: form, `{"$x": 1}`: form, `{"$and": []}`: form, `{"a": 1}`: form, `{"$text": "x"}`: form,
	})
	for n, want := range map[int]api.Errno{api.MaxStages: api.OK, api.MaxStages + 1: form} {
		wantParse(t, list(many(op("$limit", num(1)), n)...), want)
		wantParse(t, list(append(many(op("$limit", num(1)), n-1), op("$match", doc()))...), want)
	}
	wantParse(t, list(append([]api.Value{op("$match", num(5))}, many(op("$limit", num(1)), api.MaxStages-1)...)...), api.ErrFilterForm)
	wantParse(t, list(append([]api.Value{op("$match", num(5))}, many(op("$limit", num(1)), api.MaxStages)...)...), form)
}

// TestParseOrder: the first wrong stage is told, and in it what is wrong first (P8.1).
func TestParseOrder(t *testing.T) {
	for s, want := range map[string]api.Errno{
		`[{"$match": 5}, {"$x": 1}]`: api.ErrFilterForm, `[{"$x": 1}, {"$match": 5}]`: form, `[{"$match": {"$x": 1}}, {"$replace": "$"}]`: api.ErrFilterOp, `[{"$replace": "$"}, {"$match": {"$x": 1}}]`: api.ErrExprForm, `[{"$limit": 1}, 5, {"$match": 5}]`: form,
		`[{"$project": {"a": "$", "a.b": 1}}]`: api.ErrExprForm, `[{"$project": {"a.b": "$"}}]`: form, `[{"$project": {"a.b": 1, "a": "$"}}]`: form, `[{"$project": {"b": 0, "a": "$"}}]`: api.ErrExprForm, `[{"$project": {"_id": "$"}}]`: api.ErrExprForm, `[{"$project": {"_id": "$", "a": 0}}]`: api.ErrExprForm,
		`[{"$set": {"a": "$", "a.": 1}}]`: api.ErrExprForm, `[{"$set": {"a.": "$"}}]`: form, `[{"$set": {"a.": 1, "a": "$"}}]`: form, `[{"$set": {"a": "$", "$a": 1}}]`: api.ErrExprForm, `[{"$set": {"$a": 1, "a": "$"}}]`: form,
		`[{"$group": {"_id": "$", "a.b": {"$sum": 1}}}]`: api.ErrExprForm, `[{"$group": {"_id": 1, "a.b": {"$sum": 1}, "c": {"$sum": "$"}}}]`: form, `[{"$group": {"_id": 1, "c": {"$sum": "$"}, "a.b": {"$sum": 1}}}]`: api.ErrExprForm, `[{"$group": {"a": 1, "_id": "$"}}]`: form, `[{"$group": {"_id": 1, "c": {"$x": "$"}}}]`: form, `[{"$group": {"_id": 1, "c": {"$sum": "$", "$avg": 1}}}]`: form, `[{"$group": {"_id": 1, "c.d": {"$sum": "$"}}}]`: form, `[{"$group": {"_id": 1, "c": "$"}}]`: form, `[{"$group": {"_id": "$", "c": 1}}]`: api.ErrExprForm,
		`[{"$match": {"$x": 1, "$text": "x"}}]`: api.ErrFilterOp, `[{"$limit": 1}, {"$match": {"$text": "x", "$x": 1}}]`: api.ErrFilterOp, `[{"$limit": 1}, {"$match": {"$text": 1}}]`: api.ErrFilterForm, `[{"$limit": 1}, {"$match": {"$text": "x"}}, {"$match": 5}]`: form,
	} {
		wantParse(t, val(s), want)
	}
	wide := fields("n", num(1), api.MaxConds)
	for _, name := range []string{"$project", "$set"} {
		wantParse(t, single(name, doc(append([]api.Field{of("a", txt("$"))}, wide.Doc...)...)), form)
		wantParse(t, single(name, doc(append([]api.Field{of("a", txt("$"))}, wide.Doc[1:]...)...)), api.ErrExprForm)
	}
	wide = fields("n", op("$sum", num(1)), api.MaxConds)
	wantParse(t, single("$group", doc(append([]api.Field{of("_id", txt("$"))}, wide.Doc...)...)), form)
	wantParse(t, single("$group", doc(append([]api.Field{of("_id", txt("$"))}, wide.Doc[1:]...)...)), api.ErrExprForm)
}

// TestParseText: $text stands in a first stage alone (P8.1).
func TestParseText(t *testing.T) {
	for s, want := range map[string]api.Errno{
		`[{"$match": {"$text": "x"}}]`: 0, `[{"$match": {"$text": ""}}]`: 0, `[{"$match": {"a": 1, "$text": "x"}}, {"$match": {"a": 1}}]`: 0, `[{"$limit": 1}, {"$match": {"$text": "x"}}]`: form, `[{"$match": {"$text": "x"}}, {"$match": {"$text": "x"}}]`: form, `[{"$match": {}}, {"$match": {"$text": ""}}]`: form, `[{"$match": {}}, {"$match": {"a": 1, "$text": "x"}}]`: form, `[{"$match": {"$and": [{"$text": "x"}]}}]`: api.ErrFilterForm, `[{"$limit": 1}, {"$match": {"$and": [{"$text": "x"}]}}]`: api.ErrFilterForm, `[{"$limit": 1}, {"$match": {"a": {"$text": "x"}}}]`: api.ErrFilterOp, `[{"$limit": 1}, {"$match": {"a": "$text"}}]`: 0,
	} {
		wantParse(t, val(s), want)
	}
}

// TestParseKinds: what each stage takes, of all kinds (P8.1).
func TestParseKinds(t *testing.T) {
	takes := map[string][]int{
		"$match": {api.KindDoc}, "$project": {api.KindDoc}, "$set": {api.KindDoc}, "$group": {}, "$sort": {api.KindDoc}, "$limit": {api.KindInt}, "$skip": {api.KindInt}, "$unwind": {api.KindText}, "$lookup": {}, "$union": {api.KindText}, "$count": {api.KindText},
	}
	for name, l := range takes {
		for _, v := range kinds() {
			want := form
			if name == "$match" {
				want = api.ErrFilterForm
			}
			for _, kind := range l {
				if v.Kind == kind {
					want = api.OK
				}
			}
			wantParse(t, single(name, v), want)
		}
	}
	for _, v := range kinds() {
		wantParse(t, single("$replace", v), api.OK)
	}
}

// TestParseForms: the names, paths, numbers that each stage takes, and which it does not (P8.1).
func TestParseForms(t *testing.T) {
	long := strings.Repeat("n", api.MaxName)
	wantParsed(t, map[string]api.Errno{
		`{"$match": {}}`: 0, `{"$match": {"a.b": {"$gt": 1}}}`: 0, `{"$match": {"a.": 1}}`: api.ErrFilterForm, `{"$match": {"$expr": "$"}}`: api.ErrExprForm, `{"$match": {"a": {"$x": 1}}}`: api.ErrFilterOp,
		`{"$project": {}}`: form, `{"$project": {"a": 1}}`: 0, `{"$project": {"a": 0, "b": 1}}`: 0, `{"$project": {"$a": 1}}`: form, `{"$project": {"a.b": 0}}`: form, `{"$project": {"a": 2}}`: 0, `{"$project": {"a": "$b", "_id": 0}}`: 0, `{"$project": {"a": {"$x": 1}}}`: api.ErrExprForm, `{"$project": {"a": {"b": 1}}}`: 0, `{"$project": {"0": 1, "` + long + `": 1}}`: 0,
		`{"$set": {}}`: form, `{"$set": {"a.b.0": 1, "a": 1}}`: 0, `{"$set": {"": 1}}`: api.ErrValueName, `{"$set": {"a..b": 1}}`: form, `{"$set": {"a.$b": 1}}`: form, `{"$set": {"$a": 1}}`: form, `{"$set": {"_id": 1}}`: 0, `{"$set": {"a": "$$x"}}`: api.ErrExprForm, `{"$set": {"a.b.c.d.e.f.g.h.i.j": 1}}`: 0, `{"$set": {"a.b.c.d.e.f.g.h.i.j.k": 1}}`: form,
		`{"$group": {}}`: form, `{"$group": {"_id": null}}`: 0, `{"$group": {"a": {"$sum": 1}}}`: form, `{"$group": {"a": {"$sum": 1}, "_id": 1}}`: form, `{"$group": {"_id": {"$sum": 1}}}`: api.ErrExprForm, `{"$group": {"_id": {"a": "$b"}, "n": {"$sum": "$c"}}}`: 0, `{"$group": {"_id": 1, "n": 1}}`: form, `{"$group": {"_id": 1, "n": {}}}`: form, `{"$group": {"_id": 1, "n": {"sum": 1}}}`: form, `{"$group": {"_id": 1, "n": {"$add": 1, "$sum": 1}}}`: form, `{"$group": {"_id": 1, "n": {"$size": []}}}`: form, `{"$group": {"_id": 1, "n": [1]}}`: form, `{"$group": {"_id": 1, "a.b": {"$sum": 1}}}`: form, `{"$group": {"_id": 1, "$a": {"$sum": 1}}}`: form, `{"$group": {"_id": 1, "a": {"$sum": {"$x": 1}}}}`: api.ErrExprForm, `{"$group": {"_id": "$$this"}}`: api.ErrExprForm,
		`{"$group": {"_id": 1, "a": {"$sum": 1}, "b": {"$avg": 1}, "c": {"$min": 1}, "d": {"$max": 1}, "e": {"$first": 1}, "f": {"$last": 1}, "g": {"$push": 1}, "h": {"$add": 1}}}`: 0,
		`{"$sort": {}}`: form, `{"$sort": {"a": 1}}`: 0, `{"$sort": {"a.0.b": -1}}`: 0, `{"$sort": {"a": 0}}`: form, `{"$sort": {"a": 2}}`: form, `{"$sort": {"a": -2}}`: form, `{"$sort": {"a": true}}`: form, `{"$sort": {"a": {"@date": 1}}}`: form, `{"$sort": {"a": "1"}}`: form, `{"$sort": {"a.": 1}}`: form, `{"$sort": {"$a": 1}}`: form, `{"$sort": {"a": 1, "b": 3}}`: form, `{"$sort": {"a": 1, "b": 1, "c": 1, "d": -1}}`: 0, `{"$sort": {"a": 1, "b": 1, "c": 1, "d": 1, "e": 1}}`: form,
		`{"$limit": 0}`: 0, `{"$limit": -1}`: form, `{"$limit": -9223372036854775808}`: form, `{"$limit": 9223372036854775807}`: 0, `{"$limit": {"@date": 1}}`: form, `{"$skip": 0}`: 0, `{"$skip": -1}`: form, `{"$skip": true}`: form, `{"$skip": "1"}`: form,
		`{"$unwind": "a.0.b"}`: 0, `{"$unwind": ""}`: form, `{"$unwind": "$a"}`: form, `{"$unwind": "a."}`: form, `{"$unwind": {}}`: form, `{"$unwind": {"path": "a"}}`: form, `{"$unwind": {"keep": true}}`: form, `{"$unwind": {"path": "a", "keep": 1}}`: form, `{"$unwind": {"path": 1, "keep": true}}`: form, `{"$unwind": {"path": "a.", "keep": true}}`: form, `{"$unwind": {"path": "a", "keep": true, "x": 1}}`: form, `{"$unwind": {"path": "a", "Keep": true}}`: form, `{"$unwind": {"at": "a", "keep": true}}`: form, `{"$unwind": {"path": "a", "keep": false}}`: 0, `{"$unwind": {"path": {"@bytes": "a"}, "keep": false}}`: form, `{"$unwind": ["a"]}`: form, `{"$unwind": {"@bytes": "a"}}`: form,
		`{"$union": ""}`: 0, `{"$union": "$x.."}`: 0, `{"$union": {"@bytes": "a"}}`: form, `{"$union": ["a"]}`: form,
		`{"$count": ""}`: form, `{"$count": "a.b"}`: form, `{"$count": "$a"}`: form, `{"$count": "_id"}`: 0, `{"$count": "` + long + `"}`: 0, `{"$count": "` + long + `n"}`: form, `{"$count": "a\u0000"}`: form, `{"$count": {"@bytes": "a"}}`: form,
		`{"$replace": {}}`: 0, `{"$replace": "$"}`: api.ErrExprForm, `{"$replace": {"$x": 1}}`: api.ErrExprForm, `{"$replace": {"a": 1, "$b": 2}}`: api.ErrExprForm, `{"$replace": 5}`: 0,
	})
}

// TestParseLookup: just its four fields, in any order (P8.1).
func TestParseLookup(t *testing.T) {
	whole := val(`{"from": "o", "local": "a.b", "foreign": "k.0", "as": "m"}`)
	for range 4 {
		wantParse(t, single("$lookup", whole), api.OK)
		whole.Doc = append(whole.Doc[1:len(whole.Doc):len(whole.Doc)], whole.Doc[0])
	}
	whole.Doc[0], whole.Doc[2] = whole.Doc[2], whole.Doc[0]
	wantParse(t, single("$lookup", whole), api.OK)
	for i := range whole.Doc {
		less, more, other := doc(), doc(whole.Doc...), doc(append([]api.Field{}, whole.Doc...)...)
		less.Doc = append(append(less.Doc, whole.Doc[:i]...), whole.Doc[i+1:]...)
		more.Doc = append(more.Doc, of("x", txt("y")))
		other.Doc[i].Name += "s"
		for _, v := range []api.Value{less, more, other} {
			wantParse(t, single("$lookup", v), form)
		}
		for _, v := range append(kinds(), txt(""), txt("a."), txt("$a"), txt("a.b.c.d.e.f.g.h.i.j.k")) {
			want := form
			if v.Kind == api.KindText && (v.Text == "x" || whole.Doc[i].Name == "from") {
				want = api.OK
			}
			other.Doc[i] = of(whole.Doc[i].Name, v)
			wantParse(t, single("$lookup", other), want)
		}
	}
}

// TestParseMany: as many fields as a stage takes, and one more (P8.1).
func TestParseMany(t *testing.T) {
	for n, want := range map[int]api.Errno{api.MaxConds: api.OK, api.MaxConds + 1: form} {
		wantParse(t, single("$project", fields("n", num(1), n)), want)
		wantParse(t, single("$project", fields("n", num(0), n)), want)
		wantParse(t, single("$project", fields("n", txt("$a"), n)), want)
		wantParse(t, single("$set", fields("n.", num(1), n)), want)
		wantParse(t, single("$group", doc(append([]api.Field{of("_id", num(1))}, fields("n", op("$sum", num(1)), n-1).Doc...)...)), want)
	}
	for n, want := range map[int]api.Errno{api.MaxFields: api.OK, api.MaxFields + 1: form} {
		wantParse(t, single("$sort", fields("n", num(1), n)), want)
		wantParse(t, single("$sort", fields("n", num(-1), n)), want)
	}
	for n, want := range map[int]api.Errno{api.MaxParts: api.OK, api.MaxParts + 1: form} {
		way := strings.Repeat("a.", n-1) + "b"
		wantParse(t, single("$unwind", txt(way)), want)
		wantParse(t, single("$unwind", doc(of("path", txt(way)), of("keep", flag(true)))), want)
		wantParse(t, single("$set", op(way, num(1))), want)
		wantParse(t, single("$sort", op(way, num(1))), want)
	}
}
