package pipe_test

import (
	"strconv"
	"testing"

	"coffret/api"
)

// TestGroupIds: documents of one _id are one, a missing one is null, in the order in which they came first.
func TestGroupIds(t *testing.T) {
	wantRows(t, []row{
		{d3, `{"$group": {"_id": null}}`, `{"_id": null}`, 0},
		{d3, `{"$group": {"_id": "$b"}}`, `{"_id": null}, {"_id": "x"}`, 0},
		{d3, `{"$group": {"_id": "$l"}}`, `{"_id": [5, 6]}, {"_id": []}, {"_id": null}`, 0},
		{`{"a": null}, {}, {"a": 1}`, `{"$group": {"_id": "$a", "n": {"$sum": 1}}}`, `{"_id": null, "n": 2}, {"_id": 1, "n": 1}`, 0},
		{`{"a": 3}, {"a": 1}, {"a": 2}, {"a": 1}, {"a": 3}`, `{"$group": {"_id": "$a", "n": {"$sum": 1}}}`, `{"_id": 3, "n": 2}, {"_id": 1, "n": 2}, {"_id": 2, "n": 1}`, 0},
		{`{"a": 1, "b": 1}, {"b": 1, "a": 1}, {"a": 1, "b": 1}`, `{"$group": {"_id": "$$ROOT", "n": {"$sum": 1}}}`, `{"_id": {"a": 1, "b": 1}, "n": 2}, {"_id": {"b": 1, "a": 1}, "n": 1}`, 0},
		{`{"a": 1, "b": 2}, {"b": 2, "a": 1}`, `{"$group": {"_id": {"x": "$a", "y": "$z"}, "l": {"$push": "$b"}}}`, `{"_id": {"x": 1}, "l": [2, 2]}`, 0},
		{`{"a": {"@date": 1}}, {"a": 1}, {"a": true}, {"a": "1"}, {"a": {"@date": 1}}`, `{"$group": {"_id": "$a", "n": {"$sum": 1}}}`, `{"_id": {"@date": 1}, "n": 2}, {"_id": 1, "n": 1}, {"_id": true, "n": 1}, {"_id": "1", "n": 1}`, 0},
		{``, `{"$group": {"_id": null, "n": {"$sum": 1}}}`, ``, 0},
		{d3, `{"$group": {"_id": {"$divide": [1, 0]}, "n": {"$sum": "x"}}}`, ``, api.ErrExprZero},
		{d3, `{"$group": {"_id": 1, "x y": {"$sum": 1}, "0": {"$sum": 2}}}`, `{"_id": 1, "x y": 3, "0": 6}`, 0},
	})
	var docs, want []api.Value
	for i := range 600 {
		docs = append(docs, op("a", num(i*77%200)))
		if i < 200 {
			want = append(want, doc(of("_id", docs[i].Doc[0].Value), of("n", num(3))))
		}
	}
	wantRun(t, val(`[{"$group": {"_id": "$a", "n": {"$sum": 1}}}]`), docs, nil, want, api.OK)
	for i := range docs {
		docs[i] = op("a", num(i%200))
		want[i%200].Doc[0].Value = num(i % 200)
	}
	wantRun(t, val(`[{"$group": {"_id": "$a", "n": {"$sum": 1}}}]`), docs, nil, want, api.OK)
	for i := range docs {
		docs[i] = op("a", num(-i%200))
		want[i%200].Doc[0].Value = num(-i % 200)
	}
	wantRun(t, val(`[{"$group": {"_id": "$a", "n": {"$sum": 1}}}]`), docs, nil, want, api.OK)
}

// gathers is what an operator makes of a list of values, each in a document of its own.
type gathers struct {
	name, values, want string
	e                  api.Errno
}

// TestGroupOperators: what each operator makes of what the expression comes to.
func TestGroupOperators(t *testing.T) {
	big, small := strconv.Itoa(api.MaxInt), strconv.Itoa(api.MinInt)
	none := `{"@missing": true}`
	for _, x := range []gathers{
		{"$sum", `[1, 2, 4]`, `7`, 0},
		{"$sum", `[null, ` + none + `]`, `0`, 0},
		{"$sum", `[null, 5, ` + none + `, -7]`, `-2`, 0},
		{"$sum", `[` + big + `, 0, null]`, big, 0},
		{"$sum", `[` + big + `, 1]`, ``, api.ErrExprOver},
		{"$sum", `[` + big + `, 1, -1]`, ``, api.ErrExprOver},
		{"$sum", `[-1, ` + big + `, 1]`, big, 0},
		{"$sum", `[` + small + `, -1]`, ``, api.ErrExprOver},
		{"$sum", `[` + small + `, 0, ` + big + `]`, `-1`, 0},
		{"$sum", `[` + small + `, ` + small + `]`, ``, api.ErrExprOver},
		{"$sum", `[1, ` + small + `, -1]`, small, 0},
		{"$sum", `[` + big + `, "x", 1]`, ``, api.ErrPipeKind},
		{"$sum", `[` + big + `, 1, "x"]`, ``, api.ErrExprOver},
		{"$avg", `[1, 2, 4]`, `2`, 0},
		{"$avg", `[-1, -2, -5]`, `-2`, 0},
		{"$avg", `[-1, 0]`, `0`, 0},
		{"$avg", `[7]`, `7`, 0},
		{"$avg", `[1, null, 2, ` + none + `, 9]`, `4`, 0},
		{"$avg", `[null, ` + none + `]`, `null`, 0},
		{"$avg", `[0, 0]`, `0`, 0},
		{"$avg", `[` + big + `, ` + big + `]`, ``, api.ErrExprOver},
		{"$avg", `[` + small + `, -1]`, ``, api.ErrExprOver},
		{"$avg", `[` + small + `]`, small, 0},
		{"$min", `[3, 1, 2]`, `1`, 0},
		{"$min", `["x", 3, null, ` + none + `, [1]]`, `3`, 0},
		{"$min", `[{"@min": true}, null, 3]`, `{"@min": true}`, 0},
		{"$min", `[null, ` + none + `]`, `null`, 0},
		{"$min", `[[2], [1, 9], [1]]`, `[1]`, 0},
		{"$max", `[3, 1, 2]`, `3`, 0},
		{"$max", `["x", 3, null, ` + none + `, [1]]`, `[1]`, 0},
		{"$max", `[{"@max": true}, null, 3]`, `{"@max": true}`, 0},
		{"$max", `[null, ` + none + `]`, `null`, 0},
		{"$max", `[-5, null]`, `-5`, 0},
		{"$first", `[3, 1, 2]`, `3`, 0},
		{"$first", `[null, 1]`, `null`, 0},
		{"$first", `[` + none + `, 1]`, `null`, 0},
		{"$last", `[3, 1, 2]`, `2`, 0},
		{"$last", `[3, null]`, `null`, 0},
		{"$last", `[3, ` + none + `]`, `null`, 0},
		{"$push", `[3, null, 1, ` + none + `, 3, [3], {}]`, `[3, null, 1, 3, [3], {}]`, 0},
		{"$push", `[` + none + `]`, `[]`, 0},
		{"$add", `[3, null, 1, ` + none + `, 3, [3], {}, null, [3], 1, {}, true]`, `[3, null, 1, [3], {}, true]`, 0},
		{"$add", `[` + none + `]`, `[]`, 0},
	} {
		docs := list()
		for i, v := range val(x.values).List {
			docs.List = append(docs.List, doc(of("n", num(i)), of("v", v)))
			if v.Kind == 0 {
				docs.List[i].Doc = docs.List[i].Doc[:1]
			}
		}
		var want []api.Value
		if x.e == api.OK {
			want = []api.Value{doc(of("_id", null()), of("x", val(x.want)))}
		}
		wantRun(t, single("$group", doc(of("_id", null()), of("x", op(x.name, txt("$v"))))), docs.List, nil, want, x.e)
	}
}

// TestGroupKinds: what is neither a number nor nothing has no sum.
func TestGroupKinds(t *testing.T) {
	for _, v := range kinds() {
		e := api.ErrPipeKind
		if v.Kind == api.KindInt || v.Kind == api.KindNull {
			e = api.OK
		}
		for name, of1 := range map[string]api.Value{"$sum": num(v.Int), "$avg": v, "$min": v, "$max": v, "$first": v, "$last": v, "$push": list(v, v), "$add": list(v)} {
			wantE := e
			switch name {
			case "$sum":
				of1.Int *= 2
			case "$avg":
			default:
				wantE = api.OK
			}
			p := single("$group", doc(of("_id", num(1)), of("x", op(name, txt("$v")))))
			wantRun(t, p, []api.Value{op("v", v), op("v", v)}, nil, []api.Value{doc(of("_id", num(1)), of("x", of1))}, wantE)
		}
	}
}

// TestGroupApart: each group and each field gathers its own.
func TestGroupApart(t *testing.T) {
	l := `{"k": 1, "v": 5, "w": [1]}, {"k": 2, "v": 7}, {"k": 1, "v": 6, "w": [1]}, {"k": 2, "w": 3}`
	wantRows(t, []row{
		{l, `{"$group": {"_id": "$k", "s": {"$sum": "$v"}, "t": {"$sum": {"$add": ["$v", 1]}}, "a": {"$avg": "$v"}, "lo": {"$min": "$v"}, "hi": {"$max": "$v"}, "f": {"$first": "$w"}, "g": {"$last": "$w"}, "p": {"$push": "$w"}, "q": {"$add": "$w"}, "n": {"$sum": 1}}}`,
			`{"_id": 1, "s": 11, "t": 13, "a": 5, "lo": 5, "hi": 6, "f": [1], "g": [1], "p": [[1], [1]], "q": [[1]], "n": 2}, {"_id": 2, "s": 7, "t": 8, "a": 7, "lo": 7, "hi": 7, "f": null, "g": 3, "p": [3], "q": [3], "n": 2}`, 0},
		{l, `{"$group": {"_id": 1, "s": {"$sum": "$v"}, "x": {"$sum": {"$size": "$v"}}}}`, ``, api.ErrExprKind},
		{l, `{"$group": {"_id": 1, "s": {"$sum": "$w"}, "x": {"$sum": {"$size": "$v"}}}}`, ``, api.ErrPipeKind},
		{l, `{"$group": {"_id": 1, "x": {"$sum": {"$size": "$v"}}, "s": {"$sum": "$w"}}}`, ``, api.ErrExprKind},
		{l, `{"$group": {"_id": {"$divide": [1, {"$subtract": ["$k", 2]}]}, "s": {"$sum": "$w"}}}`, ``, api.ErrPipeKind},
		{l, `{"$skip": 1}, {"$group": {"_id": {"$divide": [1, {"$subtract": ["$k", 2]}]}, "s": {"$sum": "$w"}}}`, ``, api.ErrExprZero},
		{l, `{"$group": {"_id": 1, "s": {"$sum": "$v"}}}, {"$group": {"_id": "$s", "n": {"$sum": 1}}}`, `{"_id": 18, "n": 1}`, 0},
	})
}
