package update_test

import (
	"encoding/json"
	"slices"
	"strconv"
	"strings"
	"testing"

	"coffret/api"
	"coffret/filter"
	"coffret/update"
)

func num(n int) api.Value { return api.Value{Kind: api.KindInt, Int: n} }

func date(n int) api.Value { return api.Value{Kind: api.KindDate, Int: n} }

func txt(s string) api.Value { return api.Value{Kind: api.KindText, Text: s} }

func null() api.Value { return api.Value{Kind: api.KindNull} }

func flag(is bool) api.Value {
	if is {
		return api.Value{Kind: api.KindBool, Int: 1}
	}
	return api.Value{Kind: api.KindBool}
}

func list(l ...api.Value) api.Value { return api.Value{Kind: api.KindList, List: l} }

func doc(l ...api.Field) api.Value { return api.Value{Kind: api.KindDoc, Doc: l} }

func of(name string, v api.Value) api.Field { return api.Field{Name: name, Value: v} }

// op is a document of one field; at is an update of one operator at one way.
func op(name string, v api.Value) api.Value { return doc(of(name, v)) }

func at(name, way string, v api.Value) api.Value { return op(name, op(way, v)) }

// many are so many of v.
func many(v api.Value, n int) []api.Value { return slices.Repeat([]api.Value{v}, n) }

// fields is a document of so many fields: names n0, n1 and so on behind what stands ahead.
func fields(ahead string, v api.Value, n int) api.Value {
	d := doc()
	for i := range n {
		d.Doc = append(d.Doc, of(ahead+strconv.Itoa(i), v))
	}
	return d
}

// val is a value in JSON: {"@date": 5} and so on where JSON has no such kind.
func val(s string) api.Value {
	d := json.NewDecoder(strings.NewReader(s))
	d.UseNumber()
	v := next(d)
	if _, err := d.Token(); err == nil {
		panic("more than a value: " + s)
	}
	return v
}

func token(d *json.Decoder) json.Token {
	t, err := d.Token()
	if err != nil {
		panic(err)
	}
	return t
}

func next(d *json.Decoder) api.Value {
	switch t := token(d).(type) {
	case json.Number:
		n, err := strconv.Atoi(string(t))
		if err != nil {
			panic(err)
		}
		return num(n)
	case string:
		return txt(t)
	case bool:
		return flag(t)
	case json.Delim:
		if t == '[' {
			v := list()
			for d.More() {
				v.List = append(v.List, next(d))
			}
			token(d)
			return v
		}
		v := doc()
		for d.More() {
			v.Doc = append(v.Doc, of(token(d).(string), next(d)))
		}
		token(d)
		return special(v)
	}
	return null()
}

// special is the value of a kind that JSON does not have, if v says so.
func special(v api.Value) api.Value {
	if len(v.Doc) != 1 || !strings.HasPrefix(v.Doc[0].Name, "@") {
		return v
	}
	x := v.Doc[0].Value
	kinds := map[string]int{"@missing": 0, "@min": api.KindMin, "@bytes": api.KindBytes, "@id": api.KindId, "@date": api.KindDate, "@max": api.KindMax}
	kind, is := kinds[v.Doc[0].Name]
	if !is {
		panic(v.Doc[0].Name)
	}
	if x.Kind == api.KindBool { // {"@min": true}
		x.Int = 0
	}
	x.Kind = kind
	return x
}

// same tells whether two values are the same.
func same(a, b api.Value) bool {
	if a.Kind != b.Kind || a.Int != b.Int || a.Text != b.Text || len(a.List) != len(b.List) || len(a.Doc) != len(b.Doc) {
		return false
	}
	for i := range a.List {
		if !same(a.List[i], b.List[i]) {
			return false
		}
	}
	for i := range a.Doc {
		if a.Doc[i].Name != b.Doc[i].Name || !same(a.Doc[i].Value, b.Doc[i].Value) {
			return false
		}
	}
	return true
}

// show is a value in short.
func show(v api.Value) string {
	switch v.Kind {
	case 0:
		return "missing"
	case api.KindNull:
		return "null"
	case api.KindInt:
		return strconv.Itoa(v.Int)
	case api.KindText:
		return strconv.Quote(v.Text)
	case api.KindBool:
		return []string{"false", "true"}[v.Int&1]
	case api.KindList:
		var l []string
		for _, x := range v.List {
			l = append(l, show(x))
		}
		return "[" + strings.Join(l, ", ") + "]"
	case api.KindDoc:
		var l []string
		for _, f := range v.Doc {
			l = append(l, strconv.Quote(f.Name)+": "+show(f.Value))
		}
		return "{" + strings.Join(l, ", ") + "}"
	}
	return "(" + strconv.Itoa(v.Kind) + " " + strconv.Itoa(v.Int) + " " + strconv.Quote(v.Text) + ")"
}

// kinds are one of each kind, each ahead of the next one.
func kinds() []api.Value {
	return []api.Value{val(`{"@min": true}`), null(), num(7), txt("x"), val(`{"a": 1}`), val(`[1]`), val(`{"@bytes": "b"}`), val(`{"@id": "abcdefghijkl"}`), flag(true), date(9), val(`{"@max": true}`)}
}

// dice are numbers that look like any, the same at each run.
type dice uint64

func (d *dice) below(n int) int {
	*d = *d*6364136223846793005 + 1442695040888963407
	return int(*d>>33) % n
}

func pick[T any](d *dice, l ...T) T { return l[d.below(len(l))] }

// example is the chapter's d.
func example() api.Value {
	return val(`{"_id": 1, "a": 5, "l": [1, 5, 9], "x": [{"k": 1}, {"k": 2}]}`)
}

// maybe is val; of an empty text it is missing.
func maybe(s string) api.Value {
	if s == "" {
		return api.Value{}
	}
	return val(s)
}

// parse reads an update that may be.
func parse(t *testing.T, v, filters api.Value) *update.Update {
	t.Helper()
	u, e := update.Parse(v, filters)
	if e != api.OK || u == nil {
		t.Fatalf("Parse of %.300s with %.300s: %v %d", show(v), show(filters), u, e)
	}
	return u
}

// meaning is the filter that v is; missing: none.
func meaning(t *testing.T, v api.Value) *filter.Filter {
	t.Helper()
	if v.Kind == 0 {
		return nil
	}
	f, e := filter.Parse(v)
	if e != api.OK {
		t.Fatalf("filter %.300s: %d", show(v), e)
	}
	return f
}

// wantParse: Parse tells that of an update, with filters.
func wantParse(t *testing.T, v, filters api.Value, want api.Errno) {
	t.Helper()
	u, e := update.Parse(v, filters)
	if e != want || (e == api.OK) != (u != nil) {
		t.Errorf("Parse of %.300s with %.300s: %v %d, want %d", show(v), show(filters), u, e, want)
	}
}

// wantValue: that was answered, or, with an error, nothing.
func wantValue(t *testing.T, got api.Value, e api.Errno, want api.Value, wantE api.Errno, asked ...api.Value) {
	t.Helper()
	if wantE != api.OK {
		want = api.Value{}
	}
	if e != wantE || !same(got, want) {
		t.Errorf("%.900s: %.300s %d, want %.300s %d", show(list(asked...)), show(got), e, show(want), wantE)
	}
}

// wantApply: an update makes that of a document, each time.
func wantApply(t *testing.T, v, d, want api.Value, wantE api.Errno) {
	t.Helper()
	u := parse(t, v, api.Value{})
	for range 2 {
		got, e := u.Apply(d, nil)
		wantValue(t, got, e, want, wantE, v, d)
	}
}

// row is what an update makes of a document, or which error it tells.
type row struct {
	d, update, want string
	e               api.Errno
}

func wantRows(t *testing.T, l []row) {
	t.Helper()
	for _, x := range l {
		wantApply(t, val(x.update), val(x.d), maybe(x.want), x.e)
	}
}

// led is a row with filters for elements and the filter that meant the document, each missing if it is empty.
type led struct {
	d, update, filters, filter, want string
	e                                api.Errno
}

func wantLed(t *testing.T, l []led) {
	t.Helper()
	for _, x := range l {
		got, e := parse(t, val(x.update), maybe(x.filters)).Apply(val(x.d), meaning(t, maybe(x.filter)))
		wantValue(t, got, e, maybe(x.want), x.e, val(x.update), maybe(x.filters), maybe(x.filter), val(x.d))
	}
}

// sized is a text of so many bytes in all.
func sized(n int) api.Value { return txt(strings.Repeat("x", n-5)) }
