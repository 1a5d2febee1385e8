package pipe_test

import (
	"encoding/json"
	"slices"
	"strconv"
	"strings"
	"testing"

	"coffret/api"
	"coffret/pipe"
	"coffret/value"
)

func num(n int) api.Value { return api.Value{Kind: api.KindInt, Int: n} }

func date(n int) api.Value { return api.Value{Kind: api.KindDate, Int: n} }

func txt(s string) api.Value { return api.Value{Kind: api.KindText, Text: s} }

func null() api.Value { return api.Value{Kind: api.KindNull} }

func flag(is bool) api.Value {
	if is {
		return api.Value{Kind: api.KindBool, Int: 1}
	}
	return api.Value{Kind: api.KindBool}
}

func list(l ...api.Value) api.Value { return api.Value{Kind: api.KindList, List: l} }

func doc(l ...api.Field) api.Value { return api.Value{Kind: api.KindDoc, Doc: l} }

func of(name string, v api.Value) api.Field { return api.Field{Name: name, Value: v} }

// op is a document of one field; single is a pipeline of one stage.
func op(name string, v api.Value) api.Value { return doc(of(name, v)) }

func single(name string, v api.Value) api.Value { return list(op(name, v)) }

// many are so many of v.
func many(v api.Value, n int) []api.Value { return slices.Repeat([]api.Value{v}, n) }

// fields is a document of so many fields: names n0, n1 and so on behind what stands ahead.
func fields(ahead string, v api.Value, n int) api.Value {
	d := doc()
	for i := range n {
		d.Doc = append(d.Doc, of(ahead+strconv.Itoa(i), v))
	}
	return d
}

// val is a value in JSON: {"@date": 5} and so on where JSON has no such kind.
func val(s string) api.Value {
	d := json.NewDecoder(strings.NewReader(s))
	d.UseNumber()
	v := next(d)
	if _, err := d.Token(); err == nil {
		panic("more than a value: " + s)
	}
	return v
}

func token(d *json.Decoder) json.Token {
	t, err := d.Token()
	if err != nil {
		panic(err)
	}
	return t
}

func next(d *json.Decoder) api.Value {
	switch t := token(d).(type) {
	case json.Number:
		n, err := strconv.Atoi(string(t))
		if err != nil {
			panic(err)
		}
		return num(n)
	case string:
		return txt(t)
	case bool:
		return flag(t)
	case json.Delim:
		if t == '[' {
			v := list()
			for d.More() {
				v.List = append(v.List, next(d))
			}
			token(d)
			return v
		}
		v := doc()
		for d.More() {
			v.Doc = append(v.Doc, of(token(d).(string), next(d)))
		}
		token(d)
		return special(v)
	}
	return null()
}

// special is the value of a kind that JSON does not have, if v says so.
func special(v api.Value) api.Value {
	if len(v.Doc) != 1 || !strings.HasPrefix(v.Doc[0].Name, "@") {
		return v
	}
	x := v.Doc[0].Value
	kinds := map[string]int{"@missing": 0, "@min": api.KindMin, "@bytes": api.KindBytes, "@id": api.KindId, "@date": api.KindDate, "@max": api.KindMax}
	kind, is := kinds[v.Doc[0].Name]
	if !is {
		panic(v.Doc[0].Name)
	}
	if x.Kind == api.KindBool { // {"@min": true}
		x.Int = 0
	}
	x.Kind = kind
	return x
}

// same tells whether two values are the same.
func same(a, b api.Value) bool {
	if a.Kind != b.Kind || a.Int != b.Int || a.Text != b.Text || len(a.List) != len(b.List) || len(a.Doc) != len(b.Doc) {
		return false
	}
	for i := range a.List {
		if !same(a.List[i], b.List[i]) {
			return false
		}
	}
	for i := range a.Doc {
		if a.Doc[i].Name != b.Doc[i].Name || !same(a.Doc[i].Value, b.Doc[i].Value) {
			return false
		}
	}
	return true
}

// show is a value in short.
func show(v api.Value) string {
	switch v.Kind {
	case 0:
		return "missing"
	case api.KindNull:
		return "null"
	case api.KindInt:
		return strconv.Itoa(v.Int)
	case api.KindText:
		return strconv.Quote(v.Text)
	case api.KindBool:
		return []string{"false", "true"}[v.Int&1]
	case api.KindList:
		var l []string
		for _, x := range v.List {
			l = append(l, show(x))
		}
		return "[" + strings.Join(l, ", ") + "]"
	case api.KindDoc:
		var l []string
		for _, f := range v.Doc {
			l = append(l, strconv.Quote(f.Name)+": "+show(f.Value))
		}
		return "{" + strings.Join(l, ", ") + "}"
	}
	return "(" + strconv.Itoa(v.Kind) + " " + strconv.Itoa(v.Int) + " " + strconv.Quote(v.Text) + ")"
}

// kinds are one of each kind, each ahead of the next one.
func kinds() []api.Value {
	return []api.Value{{Kind: api.KindMin}, null(), num(7), txt("x"), op("a", num(1)), list(num(1)), {Kind: api.KindBytes, Text: "b"}, {Kind: api.KindId, Text: "abcdefghijkl"}, flag(true), date(9), {Kind: api.KindMax}}
}

// dice are numbers that look like any, the same at each run.
type dice uint64

func (d *dice) below(n int) int {
	*d = *d*6364136223846793005 + 1442695040888963407
	return int(*d>>33) % n
}

func pick[T any](d *dice, l ...T) T { return l[d.below(len(l))] }

// example are the chapter's docs.
func example() []api.Value {
	return val(`[{"a": 1, "l": [5, 6]}, {"a": 2, "l": []}, {"a": 1, "b": "x"}]`).List
}

// sized is a text of so many bytes in all.
func sized(n int) api.Value { return txt(strings.Repeat("x", n-5)) }

// filled is a document of so many bytes: a field a, and these.
func filled(n int, l ...api.Field) api.Value {
	d := doc(append([]api.Field{of("a", txt(""))}, l...)...)
	d.Doc[0].Value.Text = strings.Repeat("x", n-value.Size(d))
	return d
}

// parse reads a pipeline that may be.
func parse(t *testing.T, v api.Value) *pipe.Pipe {
	t.Helper()
	p, e := pipe.Parse(v)
	if e != api.OK || p == nil {
		t.Fatalf("Parse of %.300s: %v %d", show(v), p, e)
	}
	return p
}

// wantParse: Parse tells that of a pipeline.
func wantParse(t *testing.T, v api.Value, want api.Errno) {
	t.Helper()
	p, e := pipe.Parse(v)
	if e != want || (e == api.OK) != (p != nil) {
		t.Errorf("Parse of %.300s: %v %d, want %d", show(v), p, e, want)
	}
}

// wantParsed: Parse tells that of stages, each alone.
func wantParsed(t *testing.T, l map[string]api.Errno) {
	t.Helper()
	for s, want := range l {
		wantParse(t, list(val(s)), want)
	}
}

// others are collections by their names.
type others map[string][]api.Value

func (o others) tell(name string) []api.Value { return o[name] }

// wantDocs: those were answered, or, with an error, none.
func wantDocs(t *testing.T, got []api.Value, e api.Errno, want []api.Value, wantE api.Errno, asked ...api.Value) {
	t.Helper()
	if wantE != api.OK {
		want = nil
	}
	if e != wantE || !slices.EqualFunc(got, want, same) || e != api.OK && got != nil {
		t.Errorf("%.900s: %.600s %d, want %.600s %d", show(list(asked...)), show(list(got...)), e, show(list(want...)), wantE)
	}
}

// wantRun: a pipeline makes that of documents, each time.
func wantRun(t *testing.T, v api.Value, docs []api.Value, o others, want []api.Value, wantE api.Errno) {
	t.Helper()
	p := parse(t, v)
	for range 2 {
		got, e := p.Run(docs, o.tell)
		wantDocs(t, got, e, want, wantE, v, list(docs...))
	}
}

// row is what stages make of documents, or which error they tell.
type row struct {
	docs, stages, want string
	e                  api.Errno
}

func wantRows(t *testing.T, l []row) {
	t.Helper()
	for _, x := range l {
		want := list()
		if x.e == api.OK {
			want = val("[" + x.want + "]")
		}
		wantRun(t, val("["+x.stages+"]"), val("["+x.docs+"]").List, stored(), want.List, x.e)
	}
}

// stored are the other collections of the tests: o is the chapter's one.
func stored() others {
	return others{"o": val(`[{"k": 2}, {"k": [1, 3]}]`).List, "p": val(`[{"k": 1, "n": 1}, {"k": null, "n": 2}, {"n": 3}, {"k": 1, "n": 4}]`).List, "bad": list(doc(), num(1), doc()).List}
}
