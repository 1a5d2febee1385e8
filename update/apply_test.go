package update_test

import (
	"testing"

	"coffret/api"
)

// TestExamples are those of the chapter (P7.2).
func TestExamples(t *testing.T) {
	d := `{"_id": 1, "a": 5, "l": [1, 5, 9], "x": [{"k": 1}, {"k": 2}]}`
	e := `[{"as": "e", "elem": {"k": 2}}]`
	wantLed(t, []led{
		{d, `{"$set": {"a": 6, "b.c": 1}}`, "", "", `{"_id": 1, "a": 6, "l": [1, 5, 9], "x": [{"k": 1}, {"k": 2}], "b": {"c": 1}}`, 0},
		{d, `{"$inc": {"a": 2, "z": 3}, "$push": {"l": 4}}`, "", "", `{"_id": 1, "a": 7, "l": [1, 5, 9, 4], "x": [{"k": 1}, {"k": 2}], "z": 3}`, 0},
		{d, `{"$push": {"l": {"$each": [4, 2], "$sort": 1, "$slice": 3}}}`, "", "", `{"_id": 1, "a": 5, "l": [1, 2, 4], "x": [{"k": 1}, {"k": 2}]}`, 0},
		{d, `{"$pull": {"l": {"$gt": 4}}}`, "", "", `{"_id": 1, "a": 5, "l": [1], "x": [{"k": 1}, {"k": 2}]}`, 0},
		{d, `{"$pull": {"x": {"k": 2}}}`, "", "", `{"_id": 1, "a": 5, "l": [1, 5, 9], "x": [{"k": 1}]}`, 0},
		{d, `{"$pop": {"l": -1}}`, "", "", `{"_id": 1, "a": 5, "l": [5, 9], "x": [{"k": 1}, {"k": 2}]}`, 0},
		{d, `{"$set": {"x.$.k": 7}}`, "", `{"x.k": 2}`, `{"_id": 1, "a": 5, "l": [1, 5, 9], "x": [{"k": 1}, {"k": 7}]}`, 0},
		{d, `{"$inc": {"x.$[].n": 1}}`, "", "", `{"_id": 1, "a": 5, "l": [1, 5, 9], "x": [{"k": 1, "n": 1}, {"k": 2, "n": 1}]}`, 0},
		{d, `{"$set": {"x.$[e].k": 0}}`, e, "", `{"_id": 1, "a": 5, "l": [1, 5, 9], "x": [{"k": 1}, {"k": 0}]}`, 0},
		{d, `{"b": 1}`, "", "", `{"_id": 1, "b": 1}`, 0},
		{d, `{"_id": 2, "b": 1}`, "", "", "", api.ErrUpdateId},
		{d, `{"$inc": {"l": 1}}`, "", "", "", api.ErrUpdateKind},
	})
}

// TestNoDocument: what is no document does not change (P7.2).
func TestNoDocument(t *testing.T) {
	for _, d := range append(kinds(), api.Value{}, api.Value{Kind: 99}) {
		if d.Kind == api.KindDoc {
			continue
		}
		for _, s := range []string{`{}`, `{"b": 1}`, `{"_id": 1}`, `{"$set": {}}`, `{"$set": {"a": 1}}`, `{"$set": {"l.$": 1}}`, `{"$unset": {"0": 1}}`} {
			wantApply(t, val(s), d, api.Value{}, api.ErrUpdateKind)
		}
	}
}

// TestReplace: the replacement, with the `_id` that was there ahead of all (P7.2, P7.7).
func TestReplace(t *testing.T) {
	wantRows(t, []row{
		{`{"a": 1}`, `{}`, `{}`, 0},
		{`{"_id": 1, "a": 1}`, `{}`, `{"_id": 1}`, 0},
		{`{"a": 1, "_id": {"k": [1]}}`, `{"c": 1, "b": {"$x": 2, "y.z": [{}]}}`, `{"_id": {"k": [1]}, "c": 1, "b": {"$x": 2, "y.z": [{}]}}`, 0},
		{`{"_id": 1, "a": 1}`, `{"b": 2, "_id": 1, "a": 3}`, `{"_id": 1, "b": 2, "a": 3}`, 0},
		{`{"_id": {"k": [1]}}`, `{"b": 2, "_id": {"k": [1]}}`, `{"_id": {"k": [1]}, "b": 2}`, 0},
		{`{"_id": null}`, `{"b": 2}`, `{"_id": null, "b": 2}`, 0},
		{`{"_id": 1}`, `{"_id": 2}`, "", api.ErrUpdateId},
		{`{"_id": 1}`, `{"a": 1, "_id": {"@date": 1}}`, "", api.ErrUpdateId},
		{`{"_id": {"k": 1}}`, `{"_id": {"k": 1, "l": 1}}`, "", api.ErrUpdateId},
		{`{"a": 1}`, `{"_id": 2}`, "", api.ErrUpdateId},
		{`{}`, `{"_id": null, "a": 1}`, "", api.ErrUpdateId},
		{`{"a": 1}`, `{"b.c": 1, "id": 2}`, `{"b.c": 1, "id": 2}`, 0},
	})
}

// TestFirstWrong: the first error is told, of what is done in its order (P7.2).
func TestFirstWrong(t *testing.T) {
	wantLed(t, []led{
		{`{"a": "x", "b": 1}`, `{"$inc": {"a": 1}, "$set": {"b.c": 1}}`, "", "", "", api.ErrUpdateKind},
		{`{"a": "x", "b": 1}`, `{"$set": {"b.c": 1}, "$inc": {"a": 1}}`, "", "", "", api.ErrBlocked},
		{`{"a": "x", "b": 1}`, `{"$set": {"z": 1, "b.c": 1, "l.$": 1}}`, "", "", "", api.ErrBlocked},
		{`{"a": "x", "b": 1}`, `{"$set": {"l.$": 1, "b.c": 1}}`, "", "", "", api.ErrUpdatePosition},
		{`{"a": "x", "b": 1}`, `{"$push": {"a": 1}, "$mul": {"b": 9223372036854775807}}`, "", "", "", api.ErrUpdateKind},
		{`{"a": [], "b": 2}`, `{"$set": {"a.100": 1}, "$mul": {"b": 9223372036854775807}}`, "", "", "", api.ErrPad},
		{`{"a": [], "b": 2}`, `{"$mul": {"b": 9223372036854775807}, "$set": {"a.100": 1}}`, "", "", "", api.ErrExprOver},
		{`{"l": [1, "x", [], 2]}`, `{"$inc": {"l.$[]": 1}}`, "", "", "", api.ErrUpdateKind},
		{`{"l": [9223372036854775807, "x"]}`, `{"$inc": {"l.$[]": 1}}`, "", "", "", api.ErrExprOver},
		{`{"l": ["x", 9223372036854775807]}`, `{"$inc": {"l.$[]": 1}}`, "", "", "", api.ErrUpdateKind},
	})
}

// TestOneAfterAnother: each way is gone behind what came of those ahead (P7.2).
func TestOneAfterAnother(t *testing.T) {
	wantLed(t, []led{
		{`{"a": 1}`, `{"$rename": {"a": "b"}, "$set": {"c": 1}}`, "", "", `{"b": 1, "c": 1}`, 0},
		{`{"l": [1, 2]}`, `{"$set": {"l.0": 5}, "$inc": {"l.$[]": 1}}`, "", "", `{"l": [6, 3]}`, 0},
		{`{"l": [1, 2]}`, `{"$inc": {"l.$[]": 1}, "$set": {"l.0": 5}}`, "", "", `{"l": [5, 3]}`, 0},
		{`{"l": [1, 2]}`, `{"$inc": {"l.$[]": 1, "l.$[e]": 10}}`, `[{"as": "e", "elem": {"$eq": 3}}]`, "", `{"l": [2, 13]}`, 0},
		{`{"l": [1, 2]}`, `{"$set": {"l.3": 7}, "$mul": {"l.$[e]": 2}}`, `[{"as": "e", "elem": {"$gt": 1}}]`, "", `{"l": [1, 4, null, 14]}`, 0},
		{`{"a": 5}`, `{"$set": {"l.x": []}, "$push": {"l.y": 1}, "$max": {"l.z": 1}}`, "", "", `{"a": 5, "l": {"x": [], "y": [1], "z": 1}}`, 0},
		{`{"a": 5}`, `{"$set": {"l": [1, 2]}, "$pop": {"m": 1}}`, "", "", `{"a": 5, "l": [1, 2]}`, 0},
		{`{"a": {"b": 1}}`, `{"$unset": {"a.b": 1}, "$set": {"a.c": 2, "a.d": 3}}`, "", "", `{"a": {"c": 2, "d": 3}}`, 0},
		{`{"q": [[1], [2]]}`, `{"$push": {"q.$[]": 3, "q.0": 4}}`, "", "", `{"q": [[1, 3, 4], [2, 3]]}`, 0},
	})
}

// TestRight: what came about must be right (P7.2).
func TestRight(t *testing.T) {
	deep := func(n int) api.Value { // so many documents within one another
		v := doc()
		for range n - 1 {
			v = op("k", v)
		}
		return v
	}
	wantApply(t, at("$set", "a.b", deep(18)), doc(), op("a", op("b", deep(18))), 0)
	wantApply(t, at("$set", "a.b.c", deep(18)), doc(), api.Value{}, api.ErrValueDeep)
	wantApply(t, at("$push", "a.b", deep(18)), doc(), api.Value{}, api.ErrValueDeep)
	wantApply(t, at("$push", "a", deep(18)), doc(), op("a", list(deep(18))), 0)
	wantApply(t, val(`{"$rename": {"a": "b.c"}}`), op("a", deep(18)), op("b", op("c", deep(18))), 0)
	wantApply(t, val(`{"$rename": {"a": "b.c"}}`), op("a", deep(19)), api.Value{}, api.ErrValueDeep)
	wantApply(t, val(`{"$set": {"b.c.d": 1}, "$rename": {"a": "b.c.e"}, "$unset": {"z": 1}}`), op("a", deep(18)), api.Value{}, api.ErrValueDeep)
	for _, odd := range []api.Value{{}, {Kind: 99}, {Kind: api.KindInt, Text: "x"}, txt("\xff"), list(api.Value{Int: 1})} {
		d := doc(of("_id", num(1)), of("odd", odd))
		wantApply(t, val(`{"$set": {}}`), d, api.Value{}, api.ErrValueKind)
		wantApply(t, val(`{"$set": {"a": 1}}`), d, api.Value{}, api.ErrValueKind)
		wantApply(t, val(`{"$set": {"odd": 1}}`), d, val(`{"_id": 1, "odd": 1}`), 0)
		wantApply(t, val(`{"$unset": {"odd": 1}}`), d, val(`{"_id": 1}`), 0)
		wantApply(t, val(`{"b": 1}`), d, val(`{"_id": 1, "b": 1}`), 0)
		wantApply(t, val(`{"b": 1}`), op("_id", odd), api.Value{}, api.ErrValueKind)
	}
	for _, name := range []string{"$min", "$max"} { // what is alike stays
		wantApply(t, at(name, "a", num(5)), op("a", api.Value{Kind: api.KindInt, Int: 5, Text: "x"}), api.Value{}, api.ErrValueKind)
	}
	wantApply(t, val(`{"$set": {}}`), doc(of("a", num(1)), of("a", num(2))), api.Value{}, api.ErrValueName)
	wantApply(t, val(`{"$set": {"a": 3}}`), doc(of("a", num(1)), of("a", num(2))), api.Value{}, api.ErrValueName)
	wantApply(t, val(`{"$unset": {"a": 3}}`), doc(of("a", num(1)), of("a", num(2))), doc(), 0)
	wantApply(t, val(`{"$set": {"b": 3}}`), op("", num(1)), api.Value{}, api.ErrValueName)
	wantApply(t, val(`{"$set": {"b": 3}}`), api.Value{Kind: api.KindDoc, Int: 1}, api.Value{}, api.ErrValueKind)
}
