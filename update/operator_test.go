package update_test

import (
	"strconv"
	"testing"

	"coffret/api"
)

// TestSet: a value is put where a way leads to (P7.2).
func TestSet(t *testing.T) {
	wantRows(t, []row{
		{`{"a": 5, "b": 1}`, `{"$set": {"a": "x"}}`, `{"a": "x", "b": 1}`, 0},
		{`{"a": 5}`, `{"$set": {}}`, `{"a": 5}`, 0},
		{`{}`, `{"$set": {"b": 1, "a": {"$each": [1]}}, "$push": {}}`, `{"b": 1, "a": {"$each": [1]}}`, 0},
		{`{"a": {"b": 1}}`, `{"$set": {"a.c.d": [1, {"x": 2}], "_idx": 1, "b._id": 2}}`, `{"a": {"b": 1, "c": {"d": [1, {"x": 2}]}}, "_idx": 1, "b": {"_id": 2}}`, 0},
		{`{"l": [1]}`, `{"$set": {"l.0": 5, "l.3": 6, "l.4.k": 7, "m.0": 8}}`, `{"l": [5, null, null, 6, {"k": 7}], "m": {"0": 8}}`, 0},
		{`{"a": {}, "l": [[1]]}`, `{"$set": {"a.x": null, "l.0.0": [], "l.0.1.0": 1}}`, `{"a": {"x": null}, "l": [[[], {"0": 1}]]}`, 0},
		{`{"l": [1]}`, `{"$set": {"l.101": 1}}`, "", api.ErrPad},
		{`{"l": [1]}`, `{"$set": {"l.999999999": 1}}`, "", api.ErrPad},
		{`{"l": [1]}`, `{"$set": {"l.1000000000": 1}}`, "", api.ErrBlocked},
		{`{"l": [1]}`, `{"$set": {"l.x": 1}}`, "", api.ErrBlocked},
		{`{"l": [1]}`, `{"$set": {"l.00": 1}}`, "", api.ErrBlocked},
		{`{"l": [1]}`, `{"$set": {"l.-0": 1}}`, "", api.ErrBlocked},
		{`{"l": [1]}`, `{"$set": {"l.-1": 1}}`, "", api.ErrBlocked},
		{`{"l": [1]}`, `{"$set": {"l.+0": 1}}`, "", api.ErrBlocked},
		{`{"l": [1]}`, `{"$set": {"l.0.a": 1}}`, "", api.ErrBlocked},
		{`{"l": null}`, `{"$set": {"l.a": 1}}`, "", api.ErrBlocked},
		{`{"l": "x"}`, `{"$set": {"l.0": 1}}`, "", api.ErrBlocked},
	})
	wantApply(t, val(`{"$set": {"l.100": 1}}`), val(`{"l": [0]}`), op("l", list(append(append([]api.Value{num(0)}, many(null(), 99)...), num(1))...)), api.OK)
	for _, v := range kinds() {
		wantApply(t, at("$set", "a", v), val(`{"a": 5, "b": 1}`), doc(of("a", v), of("b", num(1))), api.OK)
		wantApply(t, at("$set", "l.1", v), val(`{"l": [1, 2, 3]}`), op("l", list(num(1), v, num(3))), api.OK)
	}
}

// TestUnset: nothing stands there any more; an element becomes null (P7.2).
func TestUnset(t *testing.T) {
	wantRows(t, []row{
		{`{"a": 5, "l": [1, 2], "d": {"k": 1, "m": 2}}`, `{"$unset": {"a": 1, "l.0": "", "d.k": null, "z": {}, "l.5": [], "d.z.y": 1, "l.x": 1, "l.00": 1, "l.-1": 1}}`, `{"l": [null, 2], "d": {"m": 2}}`, 0},
		{`{"a": 5}`, `{"$unset": {"a.b": 1}}`, `{"a": 5}`, 0},
		{`{"a": {"b": {"c": 1}}}`, `{"$unset": {"a.b.c": 1}}`, `{"a": {"b": {}}}`, 0},
		{`{"l": [[1, 2], {"k": 1}]}`, `{"$unset": {"l.0.1": 1, "l.1.k": 1}}`, `{"l": [[1, null], {}]}`, 0},
		{`{"a": 1, "b": 2, "c": 3}`, `{"$unset": {"b": {"$each": 5}}}`, `{"a": 1, "c": 3}`, 0},
	})
}

// TestOnInsert: `$setOnInsert` does nothing where a document is changed (P7.2).
func TestOnInsert(t *testing.T) {
	wantRows(t, []row{
		{`{"a": 5}`, `{"$setOnInsert": {"a": 6, "b": 1}}`, `{"a": 5}`, 0},
		{`{"a": 5}`, `{"$set": {"c": 1}, "$setOnInsert": {"a.b": 6}, "$inc": {"d": 1}}`, `{"a": 5, "c": 1, "d": 1}`, 0},
		{`{"a": 5}`, `{"$setOnInsert": {"l.$": 1, "m.$[]": 1}}`, `{"a": 5}`, 0},
	})
}

// TestReckon: numbers, together or times each other (P7.2).
func TestReckon(t *testing.T) {
	wantRows(t, []row{
		{`{"a": 5, "l": [1, 2]}`, `{"$inc": {"a": -7, "l.1": 3, "z.y": 4}}`, `{"a": -2, "l": [1, 5], "z": {"y": 4}}`, 0},
		{`{"a": 5, "l": [1, 2]}`, `{"$mul": {"a": -7, "l.1": 3, "z.y": 4, "l.3": 9}}`, `{"a": -35, "l": [1, 6, null, 0], "z": {"y": 0}}`, 0},
		{`{"a": 0, "b": 5}`, `{"$mul": {"a": 7, "b": 0}}`, `{"a": 0, "b": 0}`, 0},
		{`{"a": 5}`, `{"$inc": {"a.b": 1}}`, "", api.ErrBlocked},
		{`{"a": 5}`, `{"$mul": {"a.b": 1}}`, "", api.ErrBlocked},
		{`{"l": []}`, `{"$inc": {"l.x": 1}}`, "", api.ErrBlocked},
		{`{"l": []}`, `{"$mul": {"l.100": 1}}`, "", api.ErrPad},
	})
	for _, v := range append(kinds(), api.Value{Kind: 99}) {
		for _, name := range []string{"$inc", "$mul"} {
			if v.Kind != api.KindInt {
				wantApply(t, at(name, "a", num(1)), op("a", v), api.Value{}, api.ErrUpdateKind)
			}
		}
	}
}

// TestReckonEdges: what leaves 64 bits is an error, what does not is none (P7.2).
func TestReckonEdges(t *testing.T) {
	const most, least, over = api.MaxInt, api.MinInt, api.ErrExprOver
	for _, x := range []struct {
		name    string
		a, b, n int
		e       api.Errno
	}{
		{"$inc", most, 0, most, 0}, {"$inc", most - 1, 1, most, 0}, {"$inc", most, 1, 0, over}, {"$inc", 1, most, 0, over}, {"$inc", most, most, 0, over}, {"$inc", most, least, -1, 0}, {"$inc", least, 0, least, 0}, {"$inc", least + 1, -1, least, 0}, {"$inc", least, -1, 0, over}, {"$inc", -1, least, 0, over}, {"$inc", least, least, 0, over}, {"$inc", 0, least, least, 0},
		{"$mul", most, 1, most, 0}, {"$mul", most, -1, -most, 0}, {"$mul", most, 2, 0, over}, {"$mul", 2, most, 0, over}, {"$mul", most, most, 0, over}, {"$mul", most, least, 0, over}, {"$mul", least, 1, least, 0}, {"$mul", 1, least, least, 0}, {"$mul", least, -1, 0, over}, {"$mul", -1, least, 0, over}, {"$mul", least, 0, 0, 0}, {"$mul", 0, least, 0, 0}, {"$mul", least, 2, 0, over}, {"$mul", least, least, 0, over}, {"$mul", 1 << 31, 1 << 31, 1 << 62, 0}, {"$mul", 1 << 32, 1 << 31, 0, over}, {"$mul", 1 << 32, -1 << 31, least, 0}, {"$mul", 1 << 32, 1 << 32, 0, over}, {"$mul", 3037000500, 3037000500, 0, over}, {"$mul", 3037000499, 3037000499, 9223372030926249001, 0}, {"$mul", -7, -6, 42, 0},
	} {
		wantApply(t, at(x.name, "a", num(x.b)), op("a", num(x.a)), op("a", num(x.n)), x.e)
	}
}

// TestOutermost: what stands ahead, or behind (P7.2).
func TestOutermost(t *testing.T) {
	wantRows(t, []row{
		{`{"a": 5, "b": 5, "c": 5}`, `{"$min": {"a": 4, "b": 5, "c": 6, "d": 7, "e.f": [1]}}`, `{"a": 4, "b": 5, "c": 5, "d": 7, "e": {"f": [1]}}`, 0},
		{`{"a": 5, "b": 5, "c": 5}`, `{"$max": {"a": 4, "b": 5, "c": 6, "d": 7, "e.f": [1]}}`, `{"a": 5, "b": 5, "c": 6, "d": 7, "e": {"f": [1]}}`, 0},
		{`{"l": [5, [1, 2], {"k": 1}]}`, `{"$min": {"l.0": null, "l.1": [1], "l.2": {"a": 1}}}`, `{"l": [null, [1], {"a": 1}]}`, 0},
		{`{"l": [5, [1, 2], {"k": 1}]}`, `{"$max": {"l.0": "", "l.1": [1], "l.2": {"k": 1, "l": 0}}}`, `{"l": ["", [1, 2], {"k": 1, "l": 0}]}`, 0},
		{`{"l": [1]}`, `{"$min": {"l.2": 7}}`, `{"l": [1, null, 7]}`, 0},
		{`{"a": 5}`, `{"$min": {"a.b": 1}}`, "", api.ErrBlocked},
		{`{"l": []}`, `{"$max": {"l.x": 1}}`, "", api.ErrBlocked},
	})
	l := kinds()
	for i, v := range l {
		for j, w := range l {
			wantApply(t, at("$min", "a", w), op("a", v), op("a", l[min(i, j)]), api.OK)
			wantApply(t, at("$max", "a", w), op("a", v), op("a", l[max(i, j)]), api.OK)
		}
	}
}

// TestRename: what stands there stands elsewhere (P7.2).
func TestRename(t *testing.T) {
	wantRows(t, []row{
		{`{"a": {"k": [1]}, "b": 1}`, `{"$rename": {"a": "c"}}`, `{"b": 1, "c": {"k": [1]}}`, 0},
		{`{"a": 5, "b": 1, "c": 2}`, `{"$rename": {"a": "b"}}`, `{"b": 5, "c": 2}`, 0},
		{`{"a": 5}`, `{"$rename": {"z": "b", "y.x": "a.b"}}`, `{"a": 5}`, 0},
		{`{"a": {"b": 1, "c": 2}}`, `{"$rename": {"a.b": "a.d.e"}}`, `{"a": {"c": 2, "d": {"e": 1}}}`, 0},
		{`{"a": 5, "b": 6}`, `{"$rename": {"a": "c", "b": "d"}}`, `{"c": 5, "d": 6}`, 0},
		{`{"l": [1, 2, 3], "m": [1]}`, `{"$rename": {"l.1": "m.2", "l.0": "l.3"}}`, `{"l": [null, null, 3, 1], "m": [1, null, 2]}`, 0},
		{`{"l": [1, 2, {"k": 3}]}`, `{"$rename": {"l.2.k": "l.0"}}`, `{"l": [3, 2, {}]}`, 0},
		{`{"a": null}`, `{"$rename": {"a": "b._id"}}`, `{"b": {"_id": null}}`, 0},
		{`{"a": 1, "b": 5}`, `{"$rename": {"a": "b.c"}}`, "", api.ErrBlocked},
		{`{"a": 1, "l": [5]}`, `{"$rename": {"a": "l.x"}}`, "", api.ErrBlocked},
		{`{"a": 1, "l": [5]}`, `{"$rename": {"a": "l.101"}}`, "", api.ErrPad},
		{`{"b": 5}`, `{"$rename": {"a": "b.c"}}`, `{"b": 5}`, 0},
	})
}

// wantPushed: that is what one way of pushing makes of the list 1, 5, 9, 5.
func wantPushed(t *testing.T, l map[string]string) {
	t.Helper()
	for s, want := range l {
		wantApply(t, at("$push", "l", val(s)), val(`{"l": [1, 5, 9, 5]}`), op("l", val(want)), api.OK)
	}
}

// TestPush: elements are put into a list (P7.2).
func TestPush(t *testing.T) {
	wantPushed(t, map[string]string{
		`4`: `[1, 5, 9, 5, 4]`, `[4, 2]`: `[1, 5, 9, 5, [4, 2]]`, `{}`: `[1, 5, 9, 5, {}]`, `{"k": 1}`: `[1, 5, 9, 5, {"k": 1}]`, `null`: `[1, 5, 9, 5, null]`, `[]`: `[1, 5, 9, 5, []]`,
		`{"k": 1, "$each": [1]}`: `[1, 5, 9, 5, {"k": 1, "$each": [1]}]`, `{"$at": 0, "$each": [1]}`: `[1, 5, 9, 5, {"$at": 0, "$each": [1]}]`, `{"$x": 1}`: `[1, 5, 9, 5, {"$x": 1}]`,
		`{"$each": [4, 2]}`: `[1, 5, 9, 5, 4, 2]`, `{"$each": []}`: `[1, 5, 9, 5]`, `{"$each": [[4], {"$each": [2]}]}`: `[1, 5, 9, 5, [4], {"$each": [2]}]`,
	})
	wantRows(t, []row{
		{`{}`, `{"$push": {"l": 4, "a.m": {"$each": [1, 2]}, "n": {"$each": []}, "o": []}}`, `{"l": [4], "a": {"m": [1, 2]}, "n": [], "o": [[]]}`, 0},
		{`{"l": []}`, `{"$push": {"l": 4}}`, `{"l": [4]}`, 0},
		{`{"l": [[1], 2]}`, `{"$push": {"l.0": 4, "l.2": 5}}`, `{"l": [[1, 4], 2, [5]]}`, 0},
		{`{"l": 5}`, `{"$push": {"l.a": 4}}`, "", api.ErrBlocked},
		{`{"l": []}`, `{"$push": {"l.x": 4}}`, "", api.ErrBlocked},
		{`{"l": []}`, `{"$push": {"l.100": {"$each": []}}}`, "", api.ErrPad},
	})
	for _, v := range kinds() {
		if v.Kind != api.KindList {
			wantApply(t, at("$push", "a", num(1)), op("a", v), api.Value{}, api.ErrUpdateKind)
			wantApply(t, at("$push", "a", val(`{"$each": []}`)), op("a", v), api.Value{}, api.ErrUpdateKind)
		}
		wantApply(t, at("$push", "a", v), val(`{"a": [1]}`), op("a", list(num(1), v)), api.OK)
	}
}

// TestPushAt: ahead of an element, from the front or the end (P7.2).
func TestPushAt(t *testing.T) {
	for n, want := range map[int]string{
		0: `[4, 2, 1, 5, 9, 5]`, 1: `[1, 4, 2, 5, 9, 5]`, 3: `[1, 5, 9, 4, 2, 5]`, 4: `[1, 5, 9, 5, 4, 2]`, 5: `[1, 5, 9, 5, 4, 2]`, api.MaxInt: `[1, 5, 9, 5, 4, 2]`,
		-1: `[1, 5, 9, 4, 2, 5]`, -3: `[1, 4, 2, 5, 9, 5]`, -4: `[4, 2, 1, 5, 9, 5]`, -5: `[4, 2, 1, 5, 9, 5]`, api.MinInt: `[4, 2, 1, 5, 9, 5]`,
	} {
		wantPushed(t, map[string]string{`{"$each": [4, 2], "$at": ` + strconv.Itoa(n) + `}`: want})
	}
	wantRows(t, []row{
		{`{}`, `{"$push": {"l": {"$each": [4, 2], "$at": -1}, "m": {"$each": [4, 2], "$at": 1}}}`, `{"l": [4, 2], "m": [4, 2]}`, 0},
	})
}

// TestPushSort: all stand in their order, or in it turned round (P7.2).
func TestPushSort(t *testing.T) {
	wantPushed(t, map[string]string{
		`{"$each": [4, 2], "$sort": 1}`: `[1, 2, 4, 5, 5, 9]`, `{"$each": [4, 2], "$sort": -1}`: `[9, 5, 5, 4, 2, 1]`, `{"$each": [], "$sort": -1}`: `[9, 5, 5, 1]`, `{"$each": ["x", null, [3]], "$sort": 1}`: `[null, 1, 5, 5, 9, "x", [3]]`, `{"$each": ["x", null, [3]], "$sort": -1}`: `[[3], "x", 9, 5, 5, 1, null]`,
		`{"$each": [4, 2], "$at": 0, "$sort": 1}`: `[1, 2, 4, 5, 5, 9]`, `{"$each": [4, 2], "$sort": -1, "$at": 1}`: `[9, 5, 5, 4, 2, 1]`,
	})
	wantApply(t, val(`{"$push": {"l": {"$each": [{"k": 2}], "$sort": -1}}}`), val(`{"l": [{"k": 1}, {"k": 3}, {"j": 5}]}`), val(`{"l": [{"k": 3}, {"k": 2}, {"k": 1}, {"j": 5}]}`), api.OK)
}

// TestPushSlice: only so many stay, the first or the last ones, behind all else (P7.2).
func TestPushSlice(t *testing.T) {
	for n, want := range map[int]string{
		0: `[]`, 1: `[1]`, 5: `[1, 5, 9, 5, 4]`, 6: `[1, 5, 9, 5, 4, 2]`, 7: `[1, 5, 9, 5, 4, 2]`, api.MaxInt: `[1, 5, 9, 5, 4, 2]`,
		-1: `[2]`, -5: `[5, 9, 5, 4, 2]`, -6: `[1, 5, 9, 5, 4, 2]`, -7: `[1, 5, 9, 5, 4, 2]`, api.MinInt: `[1, 5, 9, 5, 4, 2]`,
	} {
		wantPushed(t, map[string]string{`{"$each": [4, 2], "$slice": ` + strconv.Itoa(n) + `}`: want})
	}
	wantPushed(t, map[string]string{
		`{"$each": [4, 2], "$slice": 3, "$sort": 1}`: `[1, 2, 4]`, `{"$each": [4, 2], "$slice": -3, "$sort": 1}`: `[5, 5, 9]`, `{"$each": [4, 2], "$slice": 3, "$sort": -1}`: `[9, 5, 5]`, `{"$each": [4, 2], "$slice": -3, "$sort": -1}`: `[4, 2, 1]`,
		`{"$each": [4, 2], "$slice": 3, "$at": 0}`: `[4, 2, 1]`, `{"$each": [4, 2], "$slice": -3, "$at": -2, "$sort": 1}`: `[5, 5, 9]`, `{"$each": [], "$slice": 2}`: `[1, 5]`,
	})
}

// TestAdd: elements that are like none are put into a list (P7.2).
func TestAdd(t *testing.T) {
	wantRows(t, []row{
		{`{"l": [1, 5, 9, 5]}`, `{"$add": {"l": 4}}`, `{"l": [1, 5, 9, 5, 4]}`, 0},
		{`{"l": [1, 5, 9, 5]}`, `{"$add": {"l": 5}}`, `{"l": [1, 5, 9, 5]}`, 0},
		{`{"l": [1, 5, 9, 5]}`, `{"$add": {"l": {"$each": [4, 1, 2, 4, "4", 9, 2]}}}`, `{"l": [1, 5, 9, 5, 4, 2, "4"]}`, 0},
		{`{"l": [1, [2], {"k": [1]}]}`, `{"$add": {"l": {"$each": [2, [2], [1], {"k": [1]}, {"k": [1], "l": 1}]}}}`, `{"l": [1, [2], {"k": [1]}, 2, [1], {"k": [1], "l": 1}]}`, 0},
		{`{"l": [1]}`, `{"$add": {"l": [1]}}`, `{"l": [1, [1]]}`, 0},
		{`{"l": [1]}`, `{"$add": {"l": {"k": 1, "$each": [2]}}}`, `{"l": [1, {"k": 1, "$each": [2]}]}`, 0},
		{`{"l": [1]}`, `{"$add": {"l": {}}}`, `{"l": [1, {}]}`, 0},
		{`{"l": [1]}`, `{"$add": {"l": {"$each": []}}}`, `{"l": [1]}`, 0},
		{`{}`, `{"$add": {"l": 4, "a.m": {"$each": [1, 2, 1]}, "n": {"$each": []}}}`, `{"l": [4], "a": {"m": [1, 2]}, "n": []}`, 0},
		{`{"l": [[1], 2]}`, `{"$add": {"l.0": 4, "l.2": 5}}`, `{"l": [[1, 4], 2, [5]]}`, 0},
		{`{"l": 5}`, `{"$add": {"l.a": 4}}`, "", api.ErrBlocked},
		{`{"l": []}`, `{"$add": {"l.100": 4}}`, "", api.ErrPad},
	})
	for _, v := range kinds() {
		if v.Kind != api.KindList {
			wantApply(t, at("$add", "a", num(1)), op("a", v), api.Value{}, api.ErrUpdateKind)
			wantApply(t, at("$add", "a", val(`{"$each": []}`)), op("a", v), api.Value{}, api.ErrUpdateKind)
		}
		wantApply(t, at("$add", "a", v), op("a", list(kinds()...)), op("a", list(kinds()...)), api.OK)
	}
}

// TestPull: elements are taken out of a list (P7.2).
func TestPull(t *testing.T) {
	wantRows(t, []row{
		{`{"l": [1, 5, 9, 5]}`, `{"$pull": {"l": 5}}`, `{"l": [1, 9]}`, 0},
		{`{"l": [1, 5, 9, 5]}`, `{"$pull": {"l": 4}}`, `{"l": [1, 5, 9, 5]}`, 0},
		{`{"l": [5, 5]}`, `{"$pull": {"l": 5}}`, `{"l": []}`, 0},
		{`{"l": [5, [5], 1, [1, 5]]}`, `{"$pull": {"l": [5]}}`, `{"l": [5, 1, [1, 5]]}`, 0},
		{`{"l": [5, [5], 1, [1, 5]]}`, `{"$pull": {"l": 5}}`, `{"l": [[5], 1, [1, 5]]}`, 0},
		{`{"l": [5, null, "x"]}`, `{"$pull": {"l": null}}`, `{"l": [5, "x"]}`, 0},
		{`{"l": [5, null, "x", 7, [8, 0]]}`, `{"$pull": {"l": {"$gt": 5}}}`, `{"l": [5, null, "x"]}`, 0},
		{`{"l": [5, 7, "x", 9]}`, `{"$pull": {"l": {"$gt": 5, "$lt": 9}}}`, `{"l": [5, "x", 9]}`, 0},
		{`{"l": [5, 7, "x", 9]}`, `{"$pull": {"l": {"$in": [7, "x"]}}}`, `{"l": [5, 9]}`, 0},
		{`{"l": [5, {}, {"k": 1}, [{}]]}`, `{"$pull": {"l": {}}}`, `{"l": [5, [{}]]}`, 0},
		{`{"l": [{"k": 1, "n": 2}, {"k": 1}, {"n": 2}, 1]}`, `{"$pull": {"l": {"k": 1}}}`, `{"l": [{"n": 2}, 1]}`, 0},
		{`{"l": [{"k": 1, "n": 2}, {"k": 1}, {"n": 2}, 1]}`, `{"$pull": {"l": {"$eq": {"k": 1}}}}`, `{"l": [{"k": 1, "n": 2}, {"n": 2}, 1]}`, 0},
		{`{"l": [{"k": 1, "n": 2}, {"k": 1}, {"n": 2}, 1]}`, `{"$pull": {"l": {"$or": [{"k": {"$exists": false}}, {"n": 2}]}}}`, `{"l": [{"k": 1}, 1]}`, 0},
		{`{"l": [{"k": 1, "n": 2}, {"k": 1}]}`, `{"$pull": {"l": {"$expr": {"$eq": [{"$add": ["$k", 1]}, "$n"]}}}}`, `{"l": [{"k": 1}]}`, 0},
		{`{"l": [{"k": 1}, {"k": 0}, {"k": "x"}]}`, `{"$pull": {"l": {"$expr": {"$mod": [1, "$k"]}}}}`, "", api.ErrExprZero},
		{`{"a": 5}`, `{"$pull": {"l": 5, "a.b.c": 1, "z.y": {"$gt": 1}}}`, `{"a": 5}`, 0},
		{`{"l": [1, 2]}`, `{"$pull": {"l.x": 5, "l.2": 1, "l.1.k": 1}}`, `{"l": [1, 2]}`, 0},
		{`{"l": [[1, 2], []]}`, `{"$pull": {"l.0": 2, "l.1": 1}}`, `{"l": [[1], []]}`, 0},
	})
	for _, v := range kinds() {
		if v.Kind != api.KindList {
			wantApply(t, at("$pull", "a", num(1)), op("a", v), api.Value{}, api.ErrUpdateKind)
			wantApply(t, at("$pull", "a", val(`{"$gt": 1}`)), op("a", v), api.Value{}, api.ErrUpdateKind)
		}
		if v.Kind != api.KindDoc {
			wantApply(t, at("$pull", "a", v), op("a", list(txt("y"), v, v, num(8))), val(`{"a": ["y", 8]}`), api.OK)
		}
	}
}

// TestPop: the last or the first element is taken out of a list (P7.2).
func TestPop(t *testing.T) {
	wantRows(t, []row{
		{`{"l": [1, 5, 9]}`, `{"$pop": {"l": 1}}`, `{"l": [1, 5]}`, 0},
		{`{"l": [1, 5, 9]}`, `{"$pop": {"l": -1}}`, `{"l": [5, 9]}`, 0},
		{`{"l": [1], "m": [1]}`, `{"$pop": {"l": -1, "m": 1}}`, `{"l": [], "m": []}`, 0},
		{`{"l": [], "m": []}`, `{"$pop": {"l": -1, "m": 1}}`, `{"l": [], "m": []}`, 0},
		{`{"a": 5}`, `{"$pop": {"l": 1, "a.b.c": -1}}`, `{"a": 5}`, 0},
		{`{"l": [[1, 2], 3]}`, `{"$pop": {"l.0": 1, "l.x": 1, "l.-1": 1, "l.2": -1, "l.1.k": 1}}`, `{"l": [[1], 3]}`, 0},
	})
	for _, v := range kinds() {
		if v.Kind != api.KindList {
			wantApply(t, at("$pop", "a", num(1)), op("a", v), api.Value{}, api.ErrUpdateKind)
			wantApply(t, at("$pop", "a", num(-1)), op("a", v), api.Value{}, api.ErrUpdateKind)
		}
	}
}
