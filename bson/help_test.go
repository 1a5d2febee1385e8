package bson_test

import (
	"bytes"
	"slices"
	"strconv"
	"strings"
	"testing"

	"coffret/api"
	"coffret/bson"
)

func num(n int) api.Value { return api.Value{Kind: api.KindInt, Int: n} }

func date(n int) api.Value { return api.Value{Kind: api.KindDate, Int: n} }

func flag(n int) api.Value { return api.Value{Kind: api.KindBool, Int: n} }

func txt(s string) api.Value { return api.Value{Kind: api.KindText, Text: s} }

func raw(s string) api.Value { return api.Value{Kind: api.KindBytes, Text: s} }

func id(s string) api.Value { return api.Value{Kind: api.KindId, Text: s} }

func null() api.Value { return api.Value{Kind: api.KindNull} }

func list(l ...api.Value) api.Value { return api.Value{Kind: api.KindList, List: l} }

func doc(l ...api.Field) api.Value { return api.Value{Kind: api.KindDoc, Doc: l} }

func of(name string, v api.Value) api.Field { return api.Field{Name: name, Value: v} }

// a is a document whose one field, named a, has that value.
func a(v api.Value) api.Value { return doc(of("a", v)) }

// nest is v within so many lists, or documents.
func nest(v api.Value, many int, docs bool) api.Value {
	for range many {
		if docs {
			v = a(v)
		} else {
			v = list(v)
		}
	}
	return v
}

// nulls are so many nulls.
func nulls(many int) []api.Value {
	return slices.Repeat([]api.Value{null()}, many)
}

// same tells whether two values are the same.
func same(a, b api.Value) bool {
	if a.Kind != b.Kind || a.Int != b.Int || a.Text != b.Text || len(a.List) != len(b.List) || len(a.Doc) != len(b.Doc) {
		return false
	}
	for i := range a.List {
		if !same(a.List[i], b.List[i]) {
			return false
		}
	}
	for i := range a.Doc {
		if a.Doc[i].Name != b.Doc[i].Name || !same(a.Doc[i].Value, b.Doc[i].Value) {
			return false
		}
	}
	return true
}

// four are a number's four bytes.
func four(n int) []byte {
	return []byte{byte(n), byte(n >> 8), byte(n >> 16), byte(n >> 24)}
}

// whole is a document's bytes around those of its fields.
func whole(parts ...[]byte) []byte {
	in := slices.Concat(parts...)
	return slices.Concat(four(len(in)+5), in, []byte{0})
}

// part is a field's bytes.
func part(code byte, name string, b ...byte) []byte {
	return slices.Concat([]byte{code}, []byte(name), []byte{0}, b)
}

// fault is one of that number at that place.
func fault(code api.Errno, at int) api.Fault {
	return api.Fault{Code: code, At: at}
}

// samples are right documents, of all kinds, depths and sizes.
func samples() []api.Value {
	long := strings.Repeat("n", api.MaxName)
	return []api.Value{
		doc(),
		a(num(1)),
		a(txt("b")),
		a(list(flag(1))),
		a(raw("z")),
		doc(of("a", api.Value{Kind: api.KindMin}), of("b", null()), of("c", api.Value{Kind: api.KindMax})),
		doc(of("b", num(-1)), of("a", num(api.MinInt)), of("c", num(api.MaxInt)), of("d", num(0x0102030405060708))),
		doc(of("a", date(-1)), of("b", date(api.MinInt)), of("c", date(api.MaxInt)), of("d", date(0))),
		doc(of("t", txt("")), of("u", txt("\x00")), of("v", txt("a\x00b")), of("w", txt("\u00e9\u20ac\U00010000"))),
		doc(of("t", raw("")), of("u", raw("\x00")), of("v", raw("\xff\xfe\x00")), of("w", raw(strings.Repeat("\x80", 300)))),
		doc(of("i", id("\x00\x01\x02\x03\x04\x05\x06\x07\x08\x09\xfe\xff")), of("j", id("abcdefghijkl")), of("f", flag(0)), of("g", flag(1))),
		doc(of("e", doc()), of("l", list()), of("n", doc(of("e", list(doc(), list(), a(num(2))))))),
		doc(of("l", list(nulls(11)...)), of("m", list(nulls(101)...)), of("s", list(num(5), txt("ab"), raw("c"), flag(0), date(3)))),
		doc(of(long, null()), of("\u20ac", null()), of("A", null()), of("0", null()), of("10", null()), of(" ", null()), of("a.b", null()), of("$a", null())),
		nest(num(1), api.MaxDepth, true),
		a(nest(num(1), api.MaxDepth-1, false)),
		a(nest(list(), api.MaxDepth-2, false)),
		a(txt(strings.Repeat("t", 300))),
		a(txt(strings.Repeat("t", 5000))),
		doc(of("a", a(num(1))), of("b", a(num(1)))),
	}
}

// biggest is a document of just MaxDoc bytes.
func biggest() api.Value {
	return a(txt(strings.Repeat("t", api.MaxDoc-13)))
}

func encoded(t *testing.T, v api.Value) []byte {
	t.Helper()
	b, e := bson.Encode(v)
	if e != api.OK {
		t.Fatalf("Encode of %v: %v", v, e)
	}
	return b
}

// wantFault tells whether Read tells a fault, and nothing else.
func wantFault(t *testing.T, what string, b []byte, at int, want api.Fault) {
	t.Helper()
	v, end, f := bson.Read(b, at)
	if f != want || end != 0 || !same(v, api.Value{}) {
		t.Errorf("%s: Read(%s, %d): %v %d %v, want %v", what, short(b), at, v, end, f, want)
	}
}

// wantRead tells whether Read tells a document, and its end.
func wantRead(t *testing.T, what string, b []byte, at int, want api.Value, wantEnd int) {
	t.Helper()
	v, end, f := bson.Read(b, at)
	if f != (api.Fault{}) || end != wantEnd || !same(v, want) {
		t.Errorf("%s: Read(%s, %d): %v %d %v, want %v %d", what, short(b), at, v, end, f, want, wantEnd)
	}
}

func wantBytes(t *testing.T, what string, got, want []byte) {
	t.Helper()
	if !bytes.Equal(got, want) {
		t.Errorf("%s: got %s, want %s", what, short(got), short(want))
	}
}

// short is the bytes in words, but not too many of them.
func short(b []byte) string {
	var s strings.Builder
	for i, x := range b {
		if i == 40 {
			return s.String() + ".. (" + strconv.Itoa(len(b)) + ")"
		}
		s.WriteString(strconv.Itoa(int(x)) + " ")
	}
	return s.String()
}
