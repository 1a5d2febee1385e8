package index_test

import (
	"bytes"
	"slices"
	"strconv"
	"strings"
	"testing"

	"coffret/api"
	"coffret/index"
	"coffret/keyenc"
)

func num(n int) api.Value { return api.Value{Kind: api.KindInt, Int: n} }

func date(n int) api.Value { return api.Value{Kind: api.KindDate, Int: n} }

func txt(s string) api.Value { return api.Value{Kind: api.KindText, Text: s} }

func null() api.Value { return api.Value{Kind: api.KindNull} }

func list(l ...api.Value) api.Value { return api.Value{Kind: api.KindList, List: l} }

func doc(l ...api.Field) api.Value { return api.Value{Kind: api.KindDoc, Doc: l} }

func of(name string, v api.Value) api.Field { return api.Field{Name: name, Value: v} }

// kinds are one of each kind, each ahead of the next one.
func kinds() []api.Value {
	return []api.Value{{Kind: api.KindMin}, null(), num(7), txt("x"), doc(of("a", num(1))), list(num(1)), {Kind: api.KindBytes, Text: "b\x00"}, {Kind: api.KindId, Text: "abcdefghijkl"}, {Kind: api.KindBool, Int: 1}, date(9), {Kind: api.KindMax}}
}

// up and down are fields of an index.
func up(path string) api.IndexField { return api.IndexField{Path: path} }

func down(path string) api.IndexField { return api.IndexField{Path: path, Desc: true} }

func on(l ...api.IndexField) api.Index { return api.Index{Name: "i", Fields: l, Expire: -1} }

// text is a Text index on these.
func text(paths ...string) api.Index {
	x := api.Index{Name: "i", Text: true, Expire: -1}
	for _, p := range paths {
		x.Fields = append(x.Fields, up(p))
	}
	return x
}

// expiring is an index of which documents expire so many seconds behind a date.
func expiring(f api.IndexField, seconds int) api.Index {
	return api.Index{Name: "i", Fields: []api.IndexField{f}, Expire: seconds}
}

// row are the values of a key.
func row(l ...api.Value) []api.Value { return l }

// each are rows of one value each.
func each(l ...api.Value) [][]api.Value {
	var rows [][]api.Value
	for _, v := range l {
		rows = append(rows, row(v))
	}
	return rows
}

// count is the row of a word and how often it is there.
func count(word string, n int) []api.Value { return row(txt(word), num(n)) }

// numbers are so many numbers, each once.
func numbers(n int) []api.Value {
	var l []api.Value
	for i := range n {
		l = append(l, num(i))
	}
	return l
}

// numbered is a text of so many words, each once.
func numbered(begin string, n int) api.Value {
	var l []string
	for i := range n {
		l = append(l, begin+strconv.Itoa(i))
	}
	return txt(strings.Join(l, " "))
}

// nest is v within so many lists, or documents.
func nest(v api.Value, many int, docs bool) api.Value {
	for range many {
		if docs {
			v = doc(of("a", v))
		} else {
			v = list(v)
		}
	}
	return v
}

// descOf tells which of the values of an index's keys fall.
func descOf(x api.Index) []bool {
	if x.Text {
		return []bool{false, false}
	}
	var desc []bool
	for _, f := range x.Fields {
		desc = append(desc, f.Desc)
	}
	return desc
}

// short are keys in few words.
func short(l [][]byte) string {
	s := strconv.Itoa(len(l)) + " keys"
	for _, b := range l[:min(len(l), 12)] {
		s += " " + strconv.Quote(string(b[:min(len(b), 60)]))
	}
	return s
}

// wantBytes: these are the keys, in this order.
func wantBytes(t *testing.T, what string, x api.Index, d api.Value, want ...[]byte) {
	t.Helper()
	if got, e := index.Keys(x, d); e != api.OK || !slices.EqualFunc(got, want, bytes.Equal) {
		t.Errorf("%s: %v, %s, want %s", what, e, short(got), short(want))
	}
}

// wantKeys: the keys are those of these rows, in this order.
func wantKeys(t *testing.T, what string, x api.Index, d api.Value, rows ...[]api.Value) {
	t.Helper()
	var want [][]byte
	for _, l := range rows {
		b, e := keyenc.Key(l, descOf(x))
		if e != api.OK {
			t.Fatalf("%s: no key of %v", what, l)
		}
		want = append(want, b)
	}
	wantBytes(t, what, x, d, want...)
}

// wantError: Keys tells an error, and nothing else.
func wantError(t *testing.T, what string, x api.Index, d api.Value, want api.Errno) {
	t.Helper()
	if l, e := index.Keys(x, d); e != want || len(l) != 0 {
		t.Errorf("%q: %v, %s, want %v", what, e, short(l), want)
	}
}

// wantMany: there are so many keys.
func wantMany(t *testing.T, what string, x api.Index, d api.Value, want int) {
	t.Helper()
	if l, e := index.Keys(x, d); e != api.OK || len(l) != want {
		t.Errorf("%s: %v, %s, want %d", what, e, short(l), want)
	}
}

func wantTime(t *testing.T, what string, x api.Index, d api.Value, want int) {
	t.Helper()
	if n, is := index.Expires(x, d); !is || n != want {
		t.Errorf("%s: %d %v, want %d", what, n, is, want)
	}
}

// wantNever: Expires tells false, and nothing else.
func wantNever(t *testing.T, what string, x api.Index, d api.Value) {
	t.Helper()
	if n, is := index.Expires(x, d); is || n != 0 {
		t.Errorf("%q: %d %v", what, n, is)
	}
}
