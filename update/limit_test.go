package update_test

import (
	"strconv"
	"strings"
	"testing"

	"coffret/api"
	"coffret/value"
)

// filled is a document of so many bytes: a field a, and these.
func filled(n int, l ...api.Field) api.Value {
	d := doc(append([]api.Field{of("a", txt(""))}, l...)...)
	d.Doc[0].Value.Text = strings.Repeat("x", n-value.Size(d))
	return d
}

// TestBig: what came about has MaxDoc bytes at most, of one more it is told (P7.2).
func TestBig(t *testing.T) {
	for n, want := range map[int]api.Errno{api.MaxDoc: api.OK, api.MaxDoc + 1: api.ErrBig} {
		d := filled(n - 100)
		wantApply(t, at("$set", "b", sized(97)), d, filled(n, of("b", sized(97))), want)
		wantApply(t, at("$set", "b.c", sized(89)), d, filled(n, of("b", op("c", sized(89)))), want)
		wantApply(t, at("$push", "b", sized(89)), d, filled(n, of("b", list(sized(89)))), want)
		wantApply(t, at("$max", "b", sized(97)), d, filled(n, of("b", sized(97))), want)
		d = filled(n-100, of("b", list(null(), num(1))))
		wantApply(t, at("$set", "b.0", sized(100)), d, filled(n, of("b", list(sized(100), num(1)))), want)
		wantApply(t, at("$set", "b.10", sized(72)), d, filled(n, of("b", list(append(append([]api.Value{null(), num(1)}, many(null(), 8)...), sized(72))...))), want)
		wantApply(t, at("$push", "b", sized(97)), d, filled(n, of("b", list(null(), num(1), sized(97)))), want)
		wantApply(t, at("$add", "b", sized(97)), d, filled(n, of("b", list(null(), num(1), sized(97)))), want)
		wantApply(t, at("$inc", "b.1", num(1)), filled(n, of("b", list(num(1), num(1)))), filled(n, of("b", list(num(1), num(2)))), want)
		wantApply(t, val(`{"$rename": {"b": "cd"}}`), filled(n-1, of("b", num(1))), filled(n, of("cd", num(1))), want)
		wantApply(t, op("b", sized(n-14)), val(`{"_id": true, "c": 1}`), doc(of("_id", flag(true)), of("b", sized(n-14))), want)
	}
	wantApply(t, val(`{"$rename": {"b": "c"}}`), filled(api.MaxDoc, of("b", num(1))), filled(api.MaxDoc, of("c", num(1))), api.OK)
}

// TestBigAsSoon: ErrBig is told behind what was done at an end, be it made good later or be there worse to come (P7.2).
func TestBigAsSoon(t *testing.T) {
	d := filled(api.MaxDoc-100, of("l", list(num(1), num(2))), of("t", txt("x")))
	wantApply(t, doc(of("$set", op("b", sized(98))), of("$unset", op("a", null()))), d, api.Value{}, api.ErrBig)
	wantApply(t, doc(of("$unset", op("a", null())), of("$set", op("b", sized(98)))), d, doc(of("l", list(num(1), num(2))), of("t", txt("x")), of("b", sized(98))), api.OK)
	wantApply(t, doc(of("$set", op("b", sized(98))), of("$inc", op("t", num(1)))), d, api.Value{}, api.ErrBig)
	wantApply(t, doc(of("$inc", op("t", num(1))), of("$set", op("b", sized(98)))), d, api.Value{}, api.ErrUpdateKind)
	wantApply(t, at("$set", "l.$[]", sized(80)), d, api.Value{}, api.ErrBig)
	wantApply(t, doc(of("$set", op("l.$[]", sized(58)))), d, value.With(d, "l", list(sized(58), sized(58))), api.OK)
	wantApply(t, doc(of("$set", op("l.$[]", sized(59)))), d, api.Value{}, api.ErrBig)
	wantApply(t, doc(of("$set", op("l.$[]", sized(60))), of("$pop", op("t", num(1)))), d, api.Value{}, api.ErrBig)
	wantApply(t, val(`{"$push": {"l": {"$each": [1, 2, 3, 4, 5, 6, 7, 8, 9, 10, 11, 12], "$slice": 2}}}`), d, d, api.OK)
	wantApply(t, val(`{"$push": {"l": {"$each": [1, 2, 3, 4, 5, 6, 7, 8, 9, 10, 11, 12]}}}`), d, api.Value{}, api.ErrBig)
	wantApply(t, doc(of("$set", doc(of("b", sized(97)), of("l.0.x", num(1))))), d, api.Value{}, api.ErrBlocked)
	wantApply(t, doc(of("$set", doc(of("b", sized(98)), of("l.0.x", num(1))))), d, api.Value{}, api.ErrBig)
}

// TestTooBigAtFirst: a document that has more than MaxDoc bytes may become one that has not (P7.2).
func TestTooBigAtFirst(t *testing.T) {
	for _, n := range []int{api.MaxDoc + 1, api.MaxDoc + 50, 3 * api.MaxDoc} {
		d := filled(n, of("l", list(num(1), num(2))), of("b", num(1)))
		wantApply(t, val(`{"$unset": {"a": 1}, "$inc": {"b": 1}}`), d, val(`{"l": [1, 2], "b": 2}`), api.OK)
		wantApply(t, val(`{"$set": {"a": 1, "b": 2}}`), d, val(`{"a": 1, "l": [1, 2], "b": 2}`), api.OK)
		wantApply(t, val(`{"$set": {"b": 2, "a": 1}}`), d, api.Value{}, api.ErrBig)
		wantApply(t, val(`{"$pop": {"z": 1}, "$set": {"a": 1}}`), d, api.Value{}, api.ErrBig)
		wantApply(t, val(`{"$set": {"l.$[].x": 1, "a": 1}}`), filled(n, of("l", list())), doc(of("a", num(1)), of("l", list())), api.OK)
		wantApply(t, val(`{"$set": {}}`), d, api.Value{}, api.ErrBig)
		wantApply(t, val(`{"$setOnInsert": {"a": 1}}`), d, api.Value{}, api.ErrBig)
		wantApply(t, val(`{"b": 1}`), d, val(`{"b": 1}`), api.OK)
		wantApply(t, doc(of("$set", doc(of("a", sized(api.MaxDoc-60)), of("c", sized(20))))), d, doc(of("a", sized(api.MaxDoc-60)), d.Doc[1], d.Doc[2], of("c", sized(20))), api.ErrBig)
		wantApply(t, doc(of("$set", doc(of("a", sized(api.MaxDoc-74)), of("c", sized(17))))), d, doc(of("a", sized(api.MaxDoc-74)), d.Doc[1], d.Doc[2], of("c", sized(17))), api.OK)
	}
}

// TestMany: as many ways and ends as an update and a document may have, within a short time (P7.2).
func TestMany(t *testing.T) {
	n := 4000
	ways, flat, short, nulls := doc(), doc(), list(), list()
	for i := range n {
		name := "n" + strconv.Itoa(i)
		ways.Doc = append(ways.Doc, of(name, flag(true)))
		flat.Doc = append(flat.Doc, of(name, flag(true)))
		short.List = append(short.List, num(i))
		nulls.List = append(nulls.List, null())
	}
	wantApply(t, op("$set", ways), doc(), flat, api.OK)
	wantApply(t, op("$unset", ways), flat, doc(), api.OK)
	wantApply(t, at("$set", "l.$[]", null()), op("l", short), op("l", nulls), api.OK)
	wantApply(t, at("$unset", "l.$[]", null()), op("l", short), op("l", nulls), api.OK)
	wantApply(t, at("$push", "l", op("$each", short)), doc(), op("l", short), api.OK)
	wantApply(t, at("$pull", "l", val(`{"$gte": 0}`)), op("l", short), op("l", list()), api.OK)
	wantApply(t, at("$set", "l.$[].k", num(1)), op("l", list(many(doc(), n)...)), op("l", list(many(op("k", num(1)), n)...)), api.ErrBig)
	wantApply(t, at("$set", "l.$[].k", null()), op("l", list(many(doc(), n)...)), op("l", list(many(op("k", null()), n)...)), api.OK)
}

// TestDeep: documents nested as deep as the bound has it (W1).
func TestDeep(t *testing.T) {
	deep, docs := num(7), num(7)
	for range 1<<16 - 2 {
		deep, docs = list(deep), op("a", docs)
	}
	for _, v := range []api.Value{deep, docs} {
		d := doc(of("a", v), of("b", num(1)))
		wantApply(t, val(`{"$set": {"b": 2}}`), d, api.Value{}, api.ErrBig)
		wantApply(t, val(`{"$set": {"a": 2}}`), d, val(`{"a": 2, "b": 1}`), api.OK)
		wantApply(t, val(`{"$unset": {"a": 2}}`), d, val(`{"b": 1}`), api.OK)
		wantApply(t, val(`{"$max": {"a": 2}}`), d, api.Value{}, api.ErrBig)
		wantApply(t, val(`{"$rename": {"a": "c.d"}}`), d, api.Value{}, api.ErrBig)
		wantApply(t, val(`{"_id": 1}`), op("_id", v), api.Value{}, api.ErrUpdateId)
		wantApply(t, val(`{"b": 1}`), op("_id", v), api.Value{}, api.ErrBig)
		wantApply(t, val(`{"$inc": {"a.a.a.a.a.a.a.a.a.a": 1}}`), d, api.Value{}, map[bool]api.Errno{true: api.ErrBlocked, false: api.ErrUpdateKind}[v.Kind == api.KindList])
		wantApply(t, val(`{"$set": {"l.$[]": 1}}`), op("l", list(v, v)), api.Value{}, api.ErrBig)
		wantApply(t, val(`{"$pull": {"l": 1}}`), op("l", list(v, v)), api.Value{}, api.ErrBig)
	}
	wantApply(t, val(`{"$set": {"a.0.0.0": 1}}`), op("a", deep), val(`{"a": [[[1]]]}`), api.OK)
}
