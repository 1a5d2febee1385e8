package expr_test

import (
	"encoding/json"
	"slices"
	"strconv"
	"strings"
	"testing"

	"coffret/api"
	"coffret/expr"
)

func num(n int) api.Value { return api.Value{Kind: api.KindInt, Int: n} }

func date(n int) api.Value { return api.Value{Kind: api.KindDate, Int: n} }

func txt(s string) api.Value { return api.Value{Kind: api.KindText, Text: s} }

func null() api.Value { return api.Value{Kind: api.KindNull} }

func flag(is bool) api.Value {
	if is {
		return api.Value{Kind: api.KindBool, Int: 1}
	}
	return api.Value{Kind: api.KindBool}
}

func list(l ...api.Value) api.Value { return api.Value{Kind: api.KindList, List: l} }

func doc(l ...api.Field) api.Value { return api.Value{Kind: api.KindDoc, Doc: l} }

func of(name string, v api.Value) api.Field { return api.Field{Name: name, Value: v} }

// call is a call of a list of arguments, op one of a value that is no list.
func call(name string, l ...api.Value) api.Value { return doc(of(name, list(l...))) }

func op(name string, v api.Value) api.Value { return doc(of(name, v)) }

// many are so many of v.
func many(v api.Value, n int) []api.Value { return slices.Repeat([]api.Value{v}, n) }

// val is a value in JSON: {"@date": 5} and so on where JSON has no such kind; missing: none.
func val(s string) api.Value {
	if s == "missing" {
		return api.Value{}
	}
	d := json.NewDecoder(strings.NewReader(s))
	d.UseNumber()
	v := next(d)
	if _, err := d.Token(); err == nil {
		panic("more than a value: " + s)
	}
	return v
}

func token(d *json.Decoder) json.Token {
	t, err := d.Token()
	if err != nil {
		panic(err)
	}
	return t
}

func next(d *json.Decoder) api.Value {
	switch t := token(d).(type) {
	case json.Number:
		n, err := strconv.Atoi(string(t))
		if err != nil {
			panic(err)
		}
		return num(n)
	case string:
		return txt(t)
	case bool:
		return flag(t)
	case json.Delim:
		if t == '[' {
			v := list()
			for d.More() {
				v.List = append(v.List, next(d))
			}
			token(d)
			return v
		}
		v := doc()
		for d.More() {
			v.Doc = append(v.Doc, of(token(d).(string), next(d)))
		}
		token(d)
		return special(v)
	}
	return null()
}

// special is the value of a kind that JSON does not have, if v says so.
func special(v api.Value) api.Value {
	if len(v.Doc) != 1 || !strings.HasPrefix(v.Doc[0].Name, "@") {
		return v
	}
	x := v.Doc[0].Value
	kinds := map[string]int{"@min": api.KindMin, "@bytes": api.KindBytes, "@id": api.KindId, "@date": api.KindDate, "@max": api.KindMax}
	kind, is := kinds[v.Doc[0].Name]
	if !is {
		panic(v.Doc[0].Name)
	}
	if x.Kind == api.KindBool { // {"@min": true}
		x.Int = 0
	}
	x.Kind = kind
	return x
}

// errno is the error of that name; OK of any other text.
func errno(s string) api.Errno {
	return map[string]api.Errno{"ErrBig": api.ErrBig, "ErrExprForm": api.ErrExprForm, "ErrExprKind": api.ErrExprKind, "ErrExprOver": api.ErrExprOver, "ErrExprZero": api.ErrExprZero, "ErrExprWork": api.ErrExprWork}[s]
}

// same tells whether two values are the same.
func same(a, b api.Value) bool {
	if a.Kind != b.Kind || a.Int != b.Int || a.Text != b.Text || len(a.List) != len(b.List) || len(a.Doc) != len(b.Doc) {
		return false
	}
	for i := range a.List {
		if !same(a.List[i], b.List[i]) {
			return false
		}
	}
	for i := range a.Doc {
		if a.Doc[i].Name != b.Doc[i].Name || !same(a.Doc[i].Value, b.Doc[i].Value) {
			return false
		}
	}
	return true
}

// eval is what an expression comes to of a document; Parse's error, if it is none.
func eval(t *testing.T, v, d api.Value) (api.Value, api.Errno) {
	t.Helper()
	x, e := expr.Parse(v)
	if (e == api.OK) != (x != nil) {
		t.Errorf("Parse of %v: %v, %v", v, x, e)
	}
	if e != api.OK {
		return api.Value{}, e
	}
	got, e := x.Eval(d)
	if e != api.OK && !same(got, api.Value{}) {
		t.Errorf("%v beside %v", got, e)
	}
	return got, e
}

// wantValue: the expression comes to that, or to that error.
func wantValue(t *testing.T, v, d, want api.Value, wantE api.Errno) {
	t.Helper()
	if got, e := eval(t, v, d); e != wantE || !same(got, want) {
		t.Errorf("%.300s: got %.300s %d, want %.300s %d", show(v), show(got), e, show(want), wantE)
	}
}

// row is an expression, and what it comes to: a value, or an error's name.
type row struct{ v, want string }

// wantRows: each expression comes to that of a document.
func wantRows(t *testing.T, d api.Value, l []row) {
	t.Helper()
	for _, x := range l {
		if e := errno(x.want); e != api.OK {
			wantValue(t, val(x.v), d, api.Value{}, e)
		} else {
			wantValue(t, val(x.v), d, val(x.want), api.OK)
		}
	}
}

// show is a value in short.
func show(v api.Value) string {
	switch v.Kind {
	case 0:
		return "missing"
	case api.KindNull:
		return "null"
	case api.KindInt:
		return strconv.Itoa(v.Int)
	case api.KindText:
		return strconv.Quote(v.Text)
	case api.KindBool:
		return []string{"false", "true"}[v.Int&1]
	case api.KindList:
		var l []string
		for _, x := range v.List {
			l = append(l, show(x))
		}
		return "[" + strings.Join(l, ", ") + "]"
	case api.KindDoc:
		var l []string
		for _, f := range v.Doc {
			l = append(l, strconv.Quote(f.Name)+": "+show(f.Value))
		}
		return "{" + strings.Join(l, ", ") + "}"
	}
	return "(" + strconv.Itoa(v.Kind) + " " + strconv.Itoa(v.Int) + " " + strconv.Quote(v.Text) + ")"
}

// example is the chapter's d.
func example() api.Value {
	return val(`{"a": 5, "b": "xy", "l": [1, 2, 3], "n": null, "t": {"@date": 86400000}}`)
}

// sample is a document with one of each kind, and some within others.
func sample() api.Value {
	return val(`{"a": 5, "z0": 0, "b": "xy", "e": "", "l": [1, 2, 3], "le": [], "n": null, "t": {"@date": 86400000}, "y": true, "f": false,
		"d": {"k": 7, "l": [{"k": 1, "m": [1]}, {"k": 2}, 3, {"j": 0}]}, "de": {}, "mi": {"@min": true}, "ma": {"@max": true}, "by": {"@bytes": "ab"}, "id": {"@id": "abcdefghijkl"}, "ln": [null, 4, null, 2, 4], "0": {"1": "nought"}}`)
}

// kinds are one of each kind, each ahead of the next one.
func kinds() []api.Value {
	return []api.Value{val(`{"@min": true}`), null(), num(7), txt("x"), val(`{"a": 1}`), val(`[1]`), val(`{"@bytes": "b"}`), val(`{"@id": "abcdefghijkl"}`), flag(true), date(9), val(`{"@max": true}`)}
}

// dice are numbers that look like any, the same at each run.
type dice uint64

func (d *dice) below(n int) int {
	*d = *d*6364136223846793005 + 1442695040888963407
	return int(*d>>33) % n
}

func pick[T any](d *dice, l ...T) T { return l[d.below(len(l))] }
