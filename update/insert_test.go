package update_test

import (
	"strings"
	"testing"

	"coffret/api"
)

// begun is what comes about of an update and a filter (empty: none), or which error is told.
type begun struct {
	update, filter, want string
	e                    api.Errno
}

func wantBegun(t *testing.T, l []begun) {
	t.Helper()
	for _, x := range l {
		u, f := parse(t, val(x.update), val(`[{"as": "e", "elem": {"$gt": 1}}]`)), meaning(t, maybe(x.filter))
		for range 2 {
			got, e := u.Insert(f)
			wantValue(t, got, e, maybe(x.want), x.e, val(x.update), maybe(x.filter))
		}
	}
}

// TestInsertExample is that of the chapter (P7.3).
func TestInsertExample(t *testing.T) {
	wantBegun(t, []begun{{`{"$set": {"b": 1}, "$setOnInsert": {"c": 2}}`, `{"_id": 7, "k": {"$gt": 1}}`, `{"_id": 7, "b": 1, "c": 2}`, 0}})
}

// TestInsertOperators: they change what the filter says (P7.3).
func TestInsertOperators(t *testing.T) {
	wantBegun(t, []begun{
		{`{"$set": {}}`, "", `{}`, 0},
		{`{"$set": {"b": 1}}`, "", `{"b": 1}`, 0},
		{`{"$set": {"b": 1}}`, `{}`, `{"b": 1}`, 0},
		{`{"$set": {}}`, `{"a": 1, "b.c": [1], "d": {"e": 1}, "b.d": null}`, `{"a": 1, "b": {"c": [1], "d": null}, "d": {"e": 1}}`, 0},
		{`{"$set": {}}`, `{"a": {"$eq": 1}, "b": {"$gt": 0, "$eq": {"$x": 1}}, "c": {"$in": [1]}, "d": {"$gte": 1, "$lte": 1}, "e": {"$all": [1]}, "f": {"$not": {"$ne": 1}}, "g": {"$elem": {"k": 1}}, "h": {"$prefix": "x"}, "i": {"$exists": true}}`, `{"a": 1, "b": {"$x": 1}}`, 0},
		{`{"$set": {}}`, `{"z": 1, "$and": [{"a": 1, "$and": [{"b.c": 2}]}, {"d": {"$gt": 1}}], "$or": [{"e": 1}], "$nor": [{"f": 1}], "$expr": {"$eq": ["$g", 1]}, "$text": "h"}`, `{"z": 1, "a": 1, "b": {"c": 2}}`, 0},
		{`{"$set": {}}`, `{"a": 1, "$and": [{"a": 2}, {"b": 3}, {"a": {"$eq": 4}}]}`, `{"a": 4, "b": 3}`, 0},
		{`{"$set": {}}`, `{"a.b": 1, "$and": [{"a": 2}]}`, `{"a": 2}`, 0},
		{`{"$set": {}}`, `{"l.0": 1, "m": [1, 2], "m.3": 4}`, `{"l": {"0": 1}, "m": [1, 2, null, 4]}`, 0},
		{`{"$inc": {"a": 1}, "$push": {"l": 3}, "$unset": {"c": 1}, "$rename": {"d": "e"}, "$mul": {"f": 2}}`, `{"_id": {"k": 1}, "a": 5, "l": [1], "c": 1, "d": 1}`, `{"_id": {"k": 1}, "a": 6, "l": [1, 3], "e": 1, "f": 0}`, 0},
		{`{"$setOnInsert": {"a.b": 1, "c": [1]}, "$inc": {"a.c": 1}}`, `{"c": 2}`, `{"c": [1], "a": {"b": 1, "c": 1}}`, 0},
		{`{"$setOnInsert": {"l.$[]": 1, "m.$[e].k": 0}}`, `{"l": [1, 2], "m": [1, 2, {"k": 1}]}`, "", api.ErrBlocked},
		{`{"$setOnInsert": {"l.$[]": 1, "m.$[e]": 0}}`, `{"l": [1, 2], "m": [1, 2, {"k": 1}]}`, `{"l": [1, 1], "m": [1, 0, {"k": 1}]}`, 0},
		{`{"$set": {"_idx": 1, "a": 1}}`, `{"_id.b": 1, "_id.a": 2}`, `{"_id": {"b": 1, "a": 2}, "_idx": 1, "a": 1}`, 0},
	})
}

// TestInsertErrors: the first one is told (P7.3).
func TestInsertErrors(t *testing.T) {
	wantBegun(t, []begun{
		{`{"$set": {}}`, `{"a": 1, "a.b": 2}`, "", api.ErrBlocked},
		{`{"b": 1}`, `{"a": 1, "a.b": 2}`, "", api.ErrBlocked},
		{`{"_id": 1}`, `{"_id": 2, "a": [], "a.x": 2}`, "", api.ErrBlocked},
		{`{"$set": {}}`, `{"a": [1], "a.101": 2}`, "", api.ErrPad},
		{`{}`, `{"a": [1], "a.101": 2}`, "", api.ErrPad},
		{`{"$inc": {"a": 1}}`, `{"a": 1, "a.b": 2}`, "", api.ErrBlocked},
		{`{"$inc": {"a": 1}}`, `{"a": "x"}`, "", api.ErrUpdateKind},
		{`{"$inc": {"a": 1}}`, `{"a": 9223372036854775807}`, "", api.ErrExprOver},
		{`{"$set": {"l.$": 7}}`, `{"l": [1]}`, "", api.ErrUpdatePosition},
		{`{"$setOnInsert": {"l.$": 7}}`, `{"l": 1}`, "", api.ErrUpdatePosition},
		{`{"$set": {"l.$[]": 7}}`, `{"l": 1}`, "", api.ErrBlocked},
	})
}

// TestInsertReplacement: with the `_id` of the filter, and of that alone (P7.3).
func TestInsertReplacement(t *testing.T) {
	wantBegun(t, []begun{
		{`{}`, "", `{}`, 0},
		{`{"b": 1, "a": {"$x": 1}}`, "", `{"b": 1, "a": {"$x": 1}}`, 0},
		{`{"b": 1, "_id": 2}`, "", `{"b": 1, "_id": 2}`, 0},
		{`{"b": 1, "_id": 2}`, `{"a": 5, "b": 7}`, `{"b": 1, "_id": 2}`, 0},
		{`{"b": 1}`, `{"a": 5, "_id": 7}`, `{"_id": 7, "b": 1}`, 0},
		{`{"b": 1}`, `{"$and": [{"_id": {"$eq": [7]}}]}`, `{"_id": [7], "b": 1}`, 0},
		{`{"b": 1}`, `{"_id.k": 1}`, `{"_id": {"k": 1}, "b": 1}`, 0},
		{`{"b": 1, "_id": 7, "c": 2}`, `{"_id": 7}`, `{"_id": 7, "b": 1, "c": 2}`, 0},
		{`{"b": 1, "_id": 8}`, `{"_id": 7}`, "", api.ErrUpdateId},
		{`{"_id": {"k": 1, "l": 1}}`, `{"_id.k": 1}`, "", api.ErrUpdateId},
		{`{"_id": null}`, `{"_id": 7}`, "", api.ErrUpdateId},
		{`{"b": 1, "_id": 8}`, `{"_id": {"$gt": 1}}`, `{"b": 1, "_id": 8}`, 0},
		{`{"b": 1}`, `{"_id": {"$in": [7]}}`, `{"b": 1}`, 0},
		{`{}`, `{"_id": null, "a": 1}`, `{"_id": null}`, 0},
	})
}

// TestInsertRight: what came about must be right (P7.3).
func TestInsertRight(t *testing.T) {
	deep := num(1)
	for range 11 {
		deep = list(deep)
	}
	way := "a" + strings.Repeat(".b", 9)
	for n, want := range map[int]api.Errno{0: api.ErrValueDeep, 1: api.OK} {
		f := meaning(t, op(way[2*n:], deep))
		_, e := parse(t, val(`{"$set": {}}`), api.Value{}).Insert(f)
		if e != want {
			t.Error(n, e)
		}
		if got, e := parse(t, val(`{"$unset": {"a": 1}, "$set": {"c": 1}}`), api.Value{}).Insert(meaning(t, op(way, deep))); e != api.OK || !same(got, op("c", num(1))) {
			t.Error(got, e)
		}
		f = meaning(t, op("_id"+way[1+2*n:], deep))
		if _, e := parse(t, val(`{"b": 1}`), api.Value{}).Insert(f); e != want {
			t.Error(n, e)
		}
		if _, e := parse(t, val(`{"b": 1, "_id": 1}`), api.Value{}).Insert(f); e != api.ErrUpdateId {
			t.Error(n, e)
		}
	}
}
