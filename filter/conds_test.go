package filter_test

import (
	"testing"

	"coffret/api"
	"coffret/filter"
)

// cond is a condition in short: its path, test and value.
type cond struct{ path, op, v string }

// wantConds: a filter has just these conditions, in that order.
func wantConds(t *testing.T, s string, want ...cond) {
	t.Helper()
	got := parse(t, val(s)).Conds()
	if len(got) != len(want) {
		t.Errorf("%s: %v", s, got)
		return
	}
	for i, c := range want {
		if got[i].Path != c.path || got[i].Op != c.op || !same(got[i].Value, val(c.v)) {
			t.Errorf("%s: %v", s, got[i])
		}
	}
}

// TestConds: of the outermost filter's fields and those in `$and`, from the front (P6.3).
func TestConds(t *testing.T) {
	wantConds(t, `{"a": 5, "$and": [{"l": {"$gt": 1, "$size": 3}}]}`, cond{"a", "$eq", "5"}, cond{"l", "$gt", "1"})
	wantConds(t, `{}`)
	wantConds(t, `{"a": {"$lte": 4, "$prefix": "x", "$eq": [1], "$in": [1, 2], "$lt": 3, "$gte": 2, "$gt": {"k": 1}}}`, cond{"a", "$lte", "4"}, cond{"a", "$prefix", `"x"`}, cond{"a", "$eq", "[1]"}, cond{"a", "$in", "[1, 2]"}, cond{"a", "$lt", "3"}, cond{"a", "$gte", "2"}, cond{"a", "$gt", `{"k": 1}`})
	wantConds(t, `{"a": {"$ne": 1, "$nin": [1], "$mod": [2, 1], "$type": "int", "$exists": true, "$size": 1, "$all": [1], "$elem": {"$eq": 1}, "$not": {"$eq": 1}}}`)
	wantConds(t, `{"a": {"$in": []}, "b": {"$ne": 1, "$eq": {"$x": 1}, "$exists": true, "$gt": 2}, "c.d": {}, "e": {"f": 1, "$g": 2}, "h": null, "i": {"@date": 3}}`, cond{"a", "$in", "[]"}, cond{"b", "$eq", `{"$x": 1}`}, cond{"b", "$gt", "2"}, cond{"c.d", "$eq", "{}"}, cond{"e", "$eq", `{"f": 1, "$g": 2}`}, cond{"h", "$eq", "null"}, cond{"i", "$eq", `{"@date": 3}`})
	wantConds(t, `{"$and": [{"a": 1, "$and": [{"b": 2}, {"$and": [{"c": 3}, {}]}, {"a": 4}]}, {"d": 5}], "e": 6}`, cond{"a", "$eq", "1"}, cond{"b", "$eq", "2"}, cond{"c", "$eq", "3"}, cond{"a", "$eq", "4"}, cond{"d", "$eq", "5"}, cond{"e", "$eq", "6"})
	wantConds(t, `{"$or": [{"a": 1}], "b": 2, "$nor": [{"c": 3}], "$expr": 1, "$text": "x"}`, cond{"b", "$eq", "2"})
	wantConds(t, `{"$or": [{"$and": [{"a": 1}]}], "$nor": [{"$and": [{"c": 3}]}], "$and": [{"$or": [{"a": 1}], "$nor": [{"a": 1}], "d": 4, "$expr": 1}]}`, cond{"d", "$eq", "4"})
	wantConds(t, `{"a": {"$elem": {"b": 1, "$and": [{"c": 1}]}}, "d": {"$not": {"$gt": 1}, "$lt": 5}}`, cond{"d", "$lt", "5"})
	wantConds(t, `{"$text": "a: 5"}`)
}

// TestWords: the text of `$text` (P6.3).
func TestWords(t *testing.T) {
	for s, want := range map[string]string{`{"$text": "some words"}`: "some words", `{"a": 1, "$text": "é, é ", "b": 2}`: "é, é ", `{"$text": ""}`: "", `{}`: "", `{"text": "x", "a": "y"}`: "", `{"a": {"$eq": "x"}, "$and": [{"b": "y"}]}`: ""} {
		if got := parse(t, val(s)).Words(); got != want {
			t.Errorf("%s: %q", s, got)
		}
	}
}

// wantPosition: the place of the first element that a filter means.
func wantPosition(t *testing.T, s string, d api.Value, list string, want int) {
	t.Helper()
	if got := parse(t, val(s)).Position(d, list); got != want {
		t.Errorf("%s of %.300s at %s: %d, want %d", s, show(d), list, got, want)
	}
}

// TestPosition: the first element of which all fields hold that say something of the list (P6.4).
func TestPosition(t *testing.T) {
	wantPosition(t, `{"x.k": 3}`, example(), "x", 1)
	wantPosition(t, `{"a": 5}`, example(), "x", -1)
	d := val(`{"a": 5, "l": [1, 7, 9, [7, 8], 7], "x": [{"k": 1, "n": 2}, {"k": 3}, 6, {"k": [3, 4], "n": 5}], "d": {"l": [2, 4, 4]}, "xx": [3], "e": [], "q": [[1, 2], [{"k": 1}, {"k": 2}]], "x.k": [9]}`)
	for _, x := range []struct {
		f, list string
		want    int
	}{
		{`{"l": 7}`, "l", 1}, {`{"l": {"$gt": 7}}`, "l", 2}, {`{"l": [7, 8]}`, "l", 3}, {`{"l": 8}`, "l", -1}, {`{"l": {"$gt": 1, "$lt": 9}}`, "l", 1}, {`{"l": {"$gt": 7, "$lt": 2}}`, "l", -1}, {`{"l": 5}`, "l", -1}, {`{"l": {"$ne": 1}}`, "l", 1}, {`{"l": {"$nin": [1, 7]}}`, "l", 2}, {`{"l": {"$in": [9, 7]}}`, "l", 1}, {`{"l": {"$size": 1}}`, "l", 0}, {`{"l": {"$size": 5}}`, "l", -1}, {`{"l": {"$exists": true}}`, "l", 0}, {`{"l": {"$exists": false}}`, "l", -1}, {`{"l": {"$all": [7]}}`, "l", 1}, {`{"l": {"$all": [1, 7]}}`, "l", -1}, {`{"l": {"$elem": {"$gt": 1, "$lt": 9}}}`, "l", 1}, {`{"l": {"$not": {"$lt": 9}}}`, "l", 2}, {`{"l": {"$type": "list"}}`, "l", 0}, {`{"l": {"$mod": [3, 0]}}`, "l", 2},
		{`{"l": 7, "a": 4}`, "l", 1}, {`{"a": 4, "l": 9, "x.k": 17}`, "l", 2}, {`{"l": 7, "$or": [{"l": 17}]}`, "l", 1}, {`{"$or": [{"l": 7}]}`, "l", -1}, {`{"$nor": [{"l": 1}]}`, "l", -1}, {`{"$expr": {"$eq": ["$l", 7]}}`, "l", -1}, {`{"$and": [{"l": {"$gt": 1}}, {"$and": [{"l": {"$lt": 9}}]}]}`, "l", 1}, {`{"$and": [{"l": {"$gt": 1}}], "l": {"$gt": 7}}`, "l", 2}, {`{"$text": "l"}`, "l", -1}, {`{}`, "l", -1},
		{`{"x.k": 4}`, "x", 3}, {`{"x.k": {"$gt": 2}}`, "x", 1}, {`{"x.k": 3, "x.n": 5}`, "x", 3}, {`{"x.k": 1, "x.n": 5}`, "x", -1}, {`{"x.k": 3, "x.n": null}`, "x", 1}, {`{"x.n": null}`, "x", 1}, {`{"x": 6}`, "x", 2}, {`{"x": {"$elem": {"k": 3, "n": {"$exists": true}}}}`, "x", 3}, {`{"x": {"k": 3}}`, "x", 1}, {`{"x.n": {"$exists": false}}`, "x", 1}, {`{"x.k": {"$ne": 1}}`, "x", 1}, {`{"x.k.0": 3}`, "x", 3}, {`{"x.k": 3, "xx": 9}`, "x", 1}, {`{"xx": 3}`, "x", -1}, {`{"x": {"$exists": true}}`, "xx", -1}, {`{"x.0": 6}`, "x", 2}, {`{"x.1": 6}`, "x", -1},
		{`{"x.k": 3}`, "x.3.k", -1}, {`{"x.3.k": 4}`, "x.3.k", 1}, {`{"x.3.k": {"$gt": 1}, "x": 17}`, "x.3.k", 0}, {`{"d.l": 4}`, "d.l", 1}, {`{"d.l": 4}`, "d", -1}, {`{"d": {"$exists": true}}`, "d.l", -1}, {`{"d": 4}`, "d.l", -1}, {`{"q.1.k": 2}`, "q.1", 1}, {`{"q.0": 2}`, "q.0", 1}, {`{"q.0": 2}`, "q", 0}, {`{"q": [1, 2]}`, "q", 0}, {`{"q": 1}`, "q.0", -1},
		{`{"e": {"$exists": true}}`, "e", -1}, {`{"e": []}`, "e", -1}, {`{"a": 5}`, "a", -1}, {`{"z": null}`, "z", -1}, {`{"x.k": 3}`, "x.k", -1}, {`{"l": 7}`, "", -1}, {`{"l": 7}`, "l.", -1}, {`{"l": 7}`, ".l", -1}, {`{"l": 7}`, "$l", -1}, {`{"l": 7}`, "l.$", -1}, {`{"l": 7}`, "l\x00", -1}, {`{"l": 7}`, "l.7", -1}, {`{"l": 7}`, "l.3", -1}, {`{"l.3": 8}`, "l.3", 1}, {`{"l.3": 8}`, "l", -1}, {`{"l.0": 8}`, "l", 3}, {`{"l": 7}`, "1.2.3.4.5.6.7.8.9.10.11", -1},
	} {
		wantPosition(t, x.f, d, x.list, x.want)
	}
}

// TestPositionOfAny: documents of every kind, and elements of which an expression tells an error, which are not meant (P6.4).
func TestPositionOfAny(t *testing.T) {
	for _, v := range kinds() {
		wantPosition(t, `{"a": 1}`, v, "a", -1)
	}
	wantPosition(t, `{"0": 2}`, val(`[[1, 2]]`), "0", 1)
	wantPosition(t, `{"1.k": 2}`, val(`[0, [{"k": 1}, {"k": 2}], {"1": {"k": 2}}]`), "1", 0)
	wantPosition(t, `{"1.k": 2}`, val(`[0, [{"k": 1}, {"k": 2}]]`), "1", 1)
	wantPosition(t, `{"l": null}`, doc(of("l", list(num(1), api.Value{}))), "l", 1)
	wantPosition(t, `{"l": 2}`, doc(of("l", list(num(1), num(2))), of("l", list(num(2)))), "l", 1)
	wantPosition(t, `{"a.l": 2}`, doc(of("a", num(1)), of("a", op("l", list(num(1), num(2))))), "a.l", -1)
	wantPosition(t, `{"l": {"$elem": {"$expr": {"$mod": [1, "$k"]}}}}`, val(`{"l": [[{"k": 3}], {"k": 0}, {"k": "x"}, {"k": 1}, {"k": 2}]}`), "l", 4)
	wantPosition(t, `{"l": {"$elem": {"$expr": {"$mod": [1, "$k"]}}}}`, val(`{"l": [{"k": 0}]}`), "l", -1)
	if got := (parse(t, val(`{"l": 5}`))).Position(api.Value{}, "l"); got != -1 {
		t.Error(got)
	}
}

// TestPositionLong: of a long list in a long document, within a short time (P6.4).
func TestPositionLong(t *testing.T) {
	d := doc(of("f", list(many(num(0), 1<<16)...)), of("g", op("h", list(num(1), doc(of("l", list(append(many(op("k", num(1)), 1<<16), op("k", num(2)))...)))))))
	wantPosition(t, `{"g.h.1.l.k": 2}`, d, "g.h.1.l", 1<<16)
	wantPosition(t, `{"g.h.1.l.k": 3}`, d, "g.h.1.l", -1)
	l, e := filter.Parse(op("f", num(0)))
	if e != api.OK || l.Position(d, "f") != 0 {
		t.Error("not the first one")
	}
}
