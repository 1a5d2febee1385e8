package expr_test

import (
	"testing"

	"coffret/api"
)

// TestLists: elements, and the lists made of them (P5.3).
func TestLists(t *testing.T) {
	wantRows(t, sample(), []row{
		{`{"$size": "$l"}`, `3`}, {`{"$size": [[]]}`, `0`}, {`{"$size": ["$le"]}`, `0`}, {`{"$size": [[1, "$z"]]}`, `2`},
		{`{"$at": ["$l", 0]}`, `1`}, {`{"$at": ["$l", 2]}`, `3`}, {`{"$at": ["$l", 3]}`, `missing`}, {`{"$at": ["$l", -1]}`, `3`}, {`{"$at": ["$l", -3]}`, `1`}, {`{"$at": ["$l", -4]}`, `missing`}, {`{"$at": ["$le", 0]}`, `missing`}, {`{"$at": ["$le", -1]}`, `missing`}, {`{"$at": ["$l", 9223372036854775807]}`, `missing`}, {`{"$at": ["$l", -9223372036854775808]}`, `missing`}, {`{"$at": ["$ln", 0]}`, `null`}, {`{"$at": [[[7]], 0]}`, `[7]`},
		{`{"$slice": ["$l", 1, 1]}`, `[2]`}, {`{"$slice": ["$l", 1, 9]}`, `[2, 3]`}, {`{"$slice": ["$l", -1, 1]}`, `[1]`}, {`{"$slice": ["$l", 3, 1]}`, `[]`}, {`{"$slice": ["$l", 0, 0]}`, `[]`}, {`{"$slice": ["$l", 0, -1]}`, `[]`}, {`{"$slice": ["$le", 0, 1]}`, `[]`}, {`{"$slice": ["$l", 1, 9223372036854775807]}`, `[2, 3]`}, {`{"$slice": ["$l", -9223372036854775808, 9223372036854775807]}`, `[1, 2, 3]`}, {`{"$slice": ["$l", 9223372036854775807, 9223372036854775807]}`, `[]`},
		{`{"$join": "$l"}`, `[1, 2, 3]`}, {`{"$join": ["$l", [], [[4]], "$l"]}`, `[1, 2, 3, [4], 1, 2, 3]`}, {`{"$join": [[]]}`, `[]`}, {`{"$join": ["$ln", ["$z"]]}`, `[null, 4, null, 2, 4, null]`},
		{`{"$reverse": "$l"}`, `[3, 2, 1]`}, {`{"$reverse": "$le"}`, `[]`}, {`{"$reverse": [[1, [2, 3], null]]}`, `[null, [2, 3], 1]`},
		{`{"$range": [2, 5]}`, `[2, 3, 4]`}, {`{"$range": [-2, 1]}`, `[-2, -1, 0]`}, {`{"$range": [5, 5]}`, `[]`}, {`{"$range": [5, 2]}`, `[]`}, {`{"$range": [9223372036854775805, 9223372036854775807]}`, `[9223372036854775805, 9223372036854775806]`}, {`{"$range": [9223372036854775807, -9223372036854775808]}`, `[]`}, {`{"$range": [-9223372036854775808, -9223372036854775807]}`, `[-9223372036854775808]`},
		{`{"$has": [2, "$l"]}`, `true`}, {`{"$has": [4, "$l"]}`, `false`}, {`{"$has": ["2", "$l"]}`, `false`}, {`{"$has": [[1], [[1], 2]]}`, `true`}, {`{"$has": [1, [[1]]]}`, `false`}, {`{"$has": ["$z", "$ln"]}`, `true`}, {`{"$has": [null, ["$z"]]}`, `true`}, {`{"$has": [null, "$l"]}`, `false`}, {`{"$has": [{"a": 1}, [{"a": 1}]]}`, `true`}, {`{"$has": [{"a": 1}, [{"a": 2}]]}`, `false`}, {`{"$has": [1, []]}`, `false`},
		{`{"$has": [1, 1]}`, `ErrExprKind`}, {`{"$has": [1, null]}`, `ErrExprKind`}, {`{"$has": [1, "$z"]}`, `ErrExprKind`}, {`{"$has": ["$l", 1]}`, `ErrExprKind`}, {`{"$has": ["a", "abc"]}`, `ErrExprKind`}, {`{"$has": [1, {"a": 1}]}`, `ErrExprKind`}, {`{"$has": [{"$divide": [1, 0]}, 1]}`, `ErrExprZero`}, {`{"$has": [1, {"$divide": [1, 0]}]}`, `ErrExprZero`},
	})
}

// TestMerge: fields in the order of their first names, with their last values (P5.3).
func TestMerge(t *testing.T) {
	wantRows(t, sample(), []row{
		{`{"$merge": {"a": 1}}`, `{"a": 1}`}, {`{"$merge": [{}]}`, `{}`}, {`{"$merge": [{"a": 1, "b": 2}, {"c": 3, "a": 4}]}`, `{"a": 4, "b": 2, "c": 3}`}, {`{"$merge": [{"b": 1}, {"a": 2}, {"b": 3}, {"a": 4, "b": 5}]}`, `{"b": 5, "a": 4}`}, {`{"$merge": ["$de", "$d", {"k": {"x": 1}}, {"k": {"y": 1}}]}`, `{"k": {"y": 1}, "l": [{"k": 1, "m": [1]}, {"k": 2}, 3, {"j": 0}]}`}, {`{"$merge": [{"a": 1}, {"a": null}]}`, `{"a": null}`}, {`{"$merge": [{"a": 1}, {"a": "$z"}]}`, `{"a": 1}`}, {`{"$merge": [{"a": 1}, [{"b": 1}]]}`, `ErrExprKind`},
	})
	twice := doc(of("x", doc(of("a", num(1)), of("b", num(2)), of("a", num(3)))))
	wantValue(t, op("$merge", txt("$x")), twice, doc(of("a", num(3)), of("b", num(2))), api.OK)
}

// TestOutermost: `$min`, `$max` (P5.3).
func TestOutermost(t *testing.T) {
	wantRows(t, sample(), []row{
		{`{"$min": [4, "$n", 2, "$z", 3]}`, `2`}, {`{"$max": [4, "$n", 2, "$z", 7, 3]}`, `7`}, {`{"$min": [null, "$z"]}`, `null`}, {`{"$max": [null, "$z"]}`, `null`}, {`{"$min": "$z"}`, `null`}, {`{"$max": [null]}`, `null`},
		{`{"$min": "$l"}`, `1`}, {`{"$max": ["$l"]}`, `3`}, {`{"$max": [[1, 5, 2]]}`, `5`}, {`{"$min": "$ln"}`, `2`}, {`{"$max": "$ln"}`, `4`}, {`{"$min": "$le"}`, `null`}, {`{"$max": [[null, "$z"]]}`, `null`}, {`{"$max": [[[1, 9], [2]]]}`, `[2]`}, {`{"$min": 5}`, `5`}, {`{"$max": {"a": 1}}`, `{"a": 1}`},
		{`{"$max": ["$l", 7]}`, `[1, 2, 3]`}, {`{"$min": ["$l", 7]}`, `7`}, {`{"$max": ["$l", [1, 3]]}`, `[1, 3]`}, {`{"$min": [3, "a", {"@date": 1}, true, {}]}`, `3`}, {`{"$max": [3, "a", {"@date": 1}, true, {}]}`, `{"@date": 1}`}, {`{"$min": [{"@min": true}, 1]}`, `{"@min": true}`}, {`{"$max": [1, {"@max": true}, 2]}`, `{"@max": true}`}, {`{"$min": [2, {"$divide": [1, 0]}, {"$abs": "x"}]}`, `ErrExprZero`}, {`{"$min": [false, true]}`, `false`}, {`{"$max": [0, false]}`, `false`},
	})
	first := doc(of("x", list(api.Value{Kind: api.KindInt, Int: 1, Text: "first"}, api.Value{Kind: api.KindInt, Int: 1, Text: "second"}))) // alike, but not the same
	for _, name := range []string{"$min", "$max"} {
		wantValue(t, op(name, txt("$x")), first, first.Doc[0].Value.List[0], api.OK)
	}
}
