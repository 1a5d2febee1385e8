package pipe_test

import (
	"slices"
	"testing"

	"coffret/api"
)

// look is a $lookup of p's documents whose k is like a.
const look = `{"$lookup": {"from": "p", "local": "a", "foreign": "k", "as": "m"}}`

// TestLookup: to each document the others that show a value that it shows.
func TestLookup(t *testing.T) {
	one, lone, none, two := `{"k": 1, "n": 1}`, `{"k": null, "n": 2}`, `{"n": 3}`, `{"k": 1, "n": 4}`
	wantRows(t, []row{
		{`{"a": 1}`, look, `{"a": 1, "m": [` + one + `, ` + two + `]}`, 0},
		{`{"a": 5}`, look, `{"a": 5, "m": []}`, 0},
		{`{}`, look, `{"m": [` + lone + `, ` + none + `]}`, 0},
		{`{"a": null}`, look, `{"a": null, "m": [` + lone + `, ` + none + `]}`, 0},
		{`{"a": [1, null, 1]}`, look, `{"a": [1, null, 1], "m": [` + one + `, ` + lone + `, ` + none + `, ` + two + `]}`, 0},
		{`{"a": [null, 1]}`, look, `{"a": [null, 1], "m": [` + one + `, ` + lone + `, ` + none + `, ` + two + `]}`, 0},
		{`{"a": []}`, look, `{"a": [], "m": []}`, 0},
		{`{"a": [[1]]}`, look, `{"a": [[1]], "m": []}`, 0},
		{`{"a": 1, "m": 5, "b": 2}`, look, `{"a": 1, "m": [` + one + `, ` + two + `], "b": 2}`, 0},
		{`{"a": {"x": [{"y": 1}, {}]}}`, `{"$lookup": {"as": "b.m", "foreign": "k", "local": "a.x.y", "from": "p"}}, {"$project": {"n": "$b.m.n"}}`, `{"n": [1, 2, 3, 4]}`, 0},
		{`{"a": [1, 3]}, {"a": [[1, 3]]}, {"a": 3}, {"a": 4}`, `{"$lookup": {"from": "o", "local": "a", "foreign": "k", "as": "m"}}, {"$project": {"n": {"$size": "$m"}}}`, `{"n": 1}, {"n": 1}, {"n": 1}, {"n": 0}`, 0},
		{`{"l": [1]}`, `{"$lookup": {"from": "p", "local": "l", "foreign": "k", "as": "l.2"}}`, `{"l": [1, null, [` + one + `, ` + two + `]]}`, 0},
		{`{"l": [1]}`, `{"$lookup": {"from": "p", "local": "l", "foreign": "k", "as": "l.x"}}`, ``, api.ErrBlocked},
		{`{"l": [1]}`, `{"$lookup": {"from": "p", "local": "l", "foreign": "k", "as": "l.101"}}`, ``, api.ErrPad},
		{`{"l": 1}`, `{"$lookup": {"from": "p", "local": "l", "foreign": "k", "as": "l.x"}}`, ``, api.ErrBlocked},
		{`{"a": 1}`, `{"$lookup": {"from": "zz", "local": "a", "foreign": "k", "as": "m"}}`, `{"a": 1, "m": []}`, 0},
		{`{"a": 1}`, `{"$lookup": {"from": "", "local": "a", "foreign": "k", "as": "a"}}`, `{"a": []}`, 0},
		{`{"l": 1}`, `{"$lookup": {"from": "bad", "local": "l", "foreign": "k", "as": "l.x"}}`, ``, api.ErrPipeKind},
		{``, `{"$lookup": {"from": "bad", "local": "l", "foreign": "k", "as": "l.x"}}`, ``, 0},
		{`{"a": 1}`, look + `, {"$unwind": "m"}, {"$replace": "$m"}`, one + `, ` + two, 0},
		{`{"a": 1}, {"a": 1}`, look + `, ` + look, `{"a": 1, "m": [` + one + `, ` + two + `]}, {"a": 1, "m": [` + one + `, ` + two + `]}`, 0},
	})
}

// TestUnion: all documents, and behind them the others.
func TestUnion(t *testing.T) {
	o := `{"k": 2}, {"k": [1, 3]}`
	wantRows(t, []row{
		{d3, `{"$union": "o"}`, d3 + `, ` + o, 0},
		{``, `{"$union": "o"}`, o, 0},
		{d3, `{"$union": "zz"}`, d3, 0},
		{d3, `{"$union": "bad"}`, ``, api.ErrPipeKind},
		{``, `{"$union": "bad"}`, ``, api.ErrPipeKind},
		{``, `{"$union": "o"}, {"$union": "o"}, {"$count": "n"}`, `{"n": 4}`, 0},
		{d3, `{"$limit": 0}, {"$union": "o"}`, o, 0},
	})
}

// TestOther: other is called where a stage asks, once, of its name; nil tells none (P8.2).
func TestOther(t *testing.T) {
	for _, x := range []struct {
		docs, stages string
		want         []string
		e            api.Errno
	}{
		{`{}, {}, {}`, look, []string{"p"}, 0},
		{``, look, nil, 0},
		{`{}`, `{"$limit": 0}, ` + look, nil, 0},
		{`{}, {}`, look + `, {"$union": "o"}, ` + look, []string{"p", "o", "p"}, 0},
		{``, `{"$union": "o"}, ` + look, []string{"o", "p"}, 0},
		{``, `{"$union": "a"}, {"$union": ""}, {"$union": "a"}`, []string{"a", "", "a"}, 0},
		{`{"a": 1}`, `{"$set": {"a.b": 1}}, {"$union": "a"}`, nil, api.ErrBlocked},
		{`{"a": 1}`, `{"$union": "bad"}, {"$union": "a"}`, []string{"bad"}, api.ErrPipeKind},
		{`{}, 1`, `{"$union": "a"}`, nil, api.ErrPipeKind},
		{`{}`, `{"$match": {}}, {"$count": "n"}`, nil, 0},
	} {
		p := parse(t, val("["+x.stages+"]"))
		var asked []string
		_, e := p.Run(val("["+x.docs+"]").List, func(name string) []api.Value {
			asked = append(asked, name)
			return stored().tell(name)
		})
		if e != x.e || !slices.Equal(asked, x.want) {
			t.Errorf("%s of %s: %q %d", x.stages, x.docs, asked, e)
		}
	}
	got, e := parse(t, val(`[`+look+`, {"$union": "o"}]`)).Run(val(`[{"a": 1}]`).List, nil)
	wantDocs(t, got, e, val(`[{"a": 1, "m": []}]`).List, api.OK)
	got, e = parse(t, val(`[{"$union": "o"}]`)).Run(nil, func(string) []api.Value { return nil })
	wantDocs(t, got, e, nil, api.OK)
}

// TestOtherMemory: what other told once may stand in the memory in which it tells the next.
func TestOtherMemory(t *testing.T) {
	told := []api.Value{op("k", list(num(1)))}
	calls := 0
	tell := func(string) []api.Value {
		calls++
		told[0].Doc[0].Value.List[0] = num(calls)
		return told
	}
	got, e := parse(t, val(`[{"$union": "x"}, {"$union": "x"}, {"$lookup": {"from": "x", "local": "k", "foreign": "k", "as": "m"}}, {"$union": "x"}]`)).Run(nil, tell)
	wantDocs(t, got, e, val(`[{"k": [1], "m": []}, {"k": [2], "m": []}, {"k": [4]}]`).List, api.OK)
}

// TestOtherAgain: other may run the pipeline itself.
func TestOtherAgain(t *testing.T) {
	p := parse(t, val(`[{"$union": "x"}, {"$group": {"_id": null, "n": {"$sum": 1}}}]`))
	deep := 0
	var tell func(string) []api.Value
	tell = func(string) []api.Value {
		if deep++; deep > 3 {
			return nil
		}
		l, e := p.Run(val(`[{}, {}]`).List, tell)
		if e != api.OK {
			t.Error(e)
		}
		return l
	}
	got, e := p.Run(val(`[{}, {}]`).List, tell)
	wantDocs(t, got, e, val(`[{"_id": null, "n": 3}]`).List, api.OK)
}
