package expr_test

import (
	"testing"

	"coffret/api"
	"coffret/value"
)

// TestBools: what is decided, and what is not worked out then (P5.3).
func TestBools(t *testing.T) {
	wantRows(t, sample(), []row{
		{`{"$and": 1}`, `true`}, {`{"$and": [1, 0]}`, `false`}, {`{"$and": [1, "x", []]}`, `true`}, {`{"$and": ["$z"]}`, `false`}, {`{"$and": [null, {"$divide": [1, 0]}]}`, `false`}, {`{"$and": [1, {"$divide": [1, 0]}]}`, `ErrExprZero`}, {`{"$and": [{"$divide": [1, 0]}, 0]}`, `ErrExprZero`}, {`{"$and": [[]]}`, `true`}, {`{"$and": "$le"}`, `true`},
		{`{"$or": 0}`, `false`}, {`{"$or": [0, "$z", null, false]}`, `false`}, {`{"$or": [0, "", {"$divide": [1, 0]}]}`, `true`}, {`{"$or": [0, {"$divide": [1, 0]}, 1]}`, `ErrExprZero`},
		{`{"$not": 1}`, `false`}, {`{"$not": [0]}`, `true`}, {`{"$not": "$z"}`, `true`}, {`{"$not": null}`, `true`}, {`{"$not": ""}`, `false`}, {`{"$not": [[]]}`, `false`}, {`{"$not": {"$abs": "x"}}`, `ErrExprKind`},
		{`{"$toBool": 0}`, `false`}, {`{"$toBool": "$z"}`, `false`}, {`{"$toBool": null}`, `false`}, {`{"$toBool": "false"}`, `true`}, {`{"$toBool": {"@date": 0}}`, `true`}, {`{"$toBool": {}}`, `true`},
		{`{"$cond": [1, 2, {"$divide": [1, 0]}]}`, `2`}, {`{"$cond": ["$z", {"$divide": [1, 0]}, 3]}`, `3`}, {`{"$cond": [{"$divide": [1, 0]}, 2, 3]}`, `ErrExprZero`}, {`{"$cond": [1, {"$divide": [1, 0]}, 3]}`, `ErrExprZero`}, {`{"$cond": [0, 1, {"$abs": "x"}]}`, `ErrExprKind`}, {`{"$cond": [1, "$l", 3]}`, `[1, 2, 3]`}, {`{"$cond": [1, "$z", 3]}`, `null`}, {`{"$cond": [0, 1, "$z"]}`, `null`}, {`{"k": {"$cond": [0, 1, "$z"]}}`, `{"k": null}`},
		{`{"$ifNull": [1, {"$divide": [1, 0]}]}`, `1`}, {`{"$ifNull": [null, 2]}`, `2`}, {`{"$ifNull": ["$z", 2]}`, `2`}, {`{"$ifNull": [0, 2]}`, `0`}, {`{"$ifNull": [false, 2]}`, `false`}, {`{"$ifNull": ["$z", null]}`, `null`}, {`{"$ifNull": ["$z", "$z"]}`, `null`}, {`{"$ifNull": [null, {"$divide": [1, 0]}]}`, `ErrExprZero`}, {`{"$ifNull": [{"$abs": "x"}, 1]}`, `ErrExprKind`},
	})
}

// TestOrder: comparisons are Compare's; what is missing is as null (P5.3).
func TestOrder(t *testing.T) {
	all := append(kinds(), num(8), txt("y"), val(`{"a": 2}`), val(`[1, 2]`), flag(false), date(8), val(`[]`), val(`{}`), num(api.MinInt))
	for _, a := range all {
		for _, b := range all {
			c := value.Compare(a, b)
			d := doc(of("a", a), of("b", b))
			for name, want := range map[string]api.Value{"$eq": flag(c == 0), "$ne": flag(c != 0), "$gt": flag(c > 0), "$gte": flag(c >= 0), "$lt": flag(c < 0), "$lte": flag(c <= 0), "$cmp": num(c)} {
				wantValue(t, call(name, txt("$a"), txt("$b")), d, want, api.OK)
			}
		}
	}
	wantRows(t, sample(), []row{
		{`{"$eq": ["$z", null]}`, `true`}, {`{"$eq": ["$z", "$n"]}`, `true`}, {`{"$eq": ["$z", "$zz"]}`, `true`}, {`{"$ne": [null, "$z"]}`, `false`}, {`{"$lt": ["$z", 0]}`, `true`}, {`{"$lt": ["$z", {"@min": true}]}`, `false`}, {`{"$cmp": ["$z", null]}`, `0`}, {`{"$cmp": ["$z", {"@min": true}]}`, `1`}, {`{"$gte": ["$z", null]}`, `true`}, {`{"$lte": [null, "$z"]}`, `true`}, {`{"$gt": ["$z", null]}`, `false`},
		{`{"$eq": [{"$abs": "x"}, {"$divide": [1, 0]}]}`, `ErrExprKind`}, {`{"$cmp": [{"$divide": [1, 0]}, {"$abs": "x"}]}`, `ErrExprZero`}, {`{"$lt": [1, {"$divide": [1, 0]}]}`, `ErrExprZero`},
	})
}
