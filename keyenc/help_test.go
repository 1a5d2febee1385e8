package keyenc_test

import (
	"bytes"
	"fmt"
	"slices"
	"strconv"
	"strings"
	"testing"

	"coffret/api"
	"coffret/keyenc"
	"coffret/value"
)

func num(n int) api.Value { return api.Value{Kind: api.KindInt, Int: n} }

func date(n int) api.Value { return api.Value{Kind: api.KindDate, Int: n} }

func flag(n int) api.Value { return api.Value{Kind: api.KindBool, Int: n} }

func txt(s string) api.Value { return api.Value{Kind: api.KindText, Text: s} }

func raw(s string) api.Value { return api.Value{Kind: api.KindBytes, Text: s} }

func id(s string) api.Value { return api.Value{Kind: api.KindId, Text: s} }

func null() api.Value { return api.Value{Kind: api.KindNull} }

func least() api.Value { return api.Value{Kind: api.KindMin} }

func most() api.Value { return api.Value{Kind: api.KindMax} }

func list(l ...api.Value) api.Value { return api.Value{Kind: api.KindList, List: l} }

func doc(l ...api.Field) api.Value { return api.Value{Kind: api.KindDoc, Doc: l} }

func of(name string, v api.Value) api.Field { return api.Field{Name: name, Value: v} }

// row are the values of a key.
func row(l ...api.Value) []api.Value { return l }

// nest is v within so many lists, or documents.
func nest(v api.Value, many int, docs bool) api.Value {
	for range many {
		if docs {
			v = doc(of("a", v))
		} else {
			v = list(v)
		}
	}
	return v
}

// same tells whether two values are the same.
func same(a, b api.Value) bool {
	if a.Kind != b.Kind || a.Int != b.Int || a.Text != b.Text || len(a.Doc) != len(b.Doc) {
		return false
	}
	for i := range a.Doc {
		if a.Doc[i].Name != b.Doc[i].Name || !same(a.Doc[i].Value, b.Doc[i].Value) {
			return false
		}
	}
	return sameRows(a.List, b.List)
}

func sameRows(a, b []api.Value) bool {
	return slices.EqualFunc(a, b, same)
}

// turned are the bytes of what falls.
func turned(b []byte) []byte {
	out := bytes.Clone(b)
	for i := range out {
		out[i] = 255 - out[i]
	}
	return out
}

// ways are all that a row of so many values may have as desc.
func ways(many int) [][]bool {
	out := [][]bool{}
	for n := range 1 << many {
		desc := []bool{}
		for i := range many {
			desc = append(desc, n>>i&1 == 1)
		}
		out = append(out, desc)
	}
	return out
}

// up and down are the desc of rows of one value.
var up, down = []bool{false}, []bool{true}

func keyOf(t *testing.T, l []api.Value, desc []bool) []byte {
	t.Helper()
	b, e := keyenc.Key(l, desc)
	if e != api.OK || len(b) == 0 {
		t.Fatalf("Key(%.300v, %v): %s %v", fmt.Sprint(l), desc, short(b), e)
	}
	return b
}

// wantError tells whether Key tells an error, and nothing else.
func wantError(t *testing.T, what string, l []api.Value, desc []bool, want api.Errno) {
	t.Helper()
	if b, e := keyenc.Key(l, desc); e != want || len(b) != 0 {
		t.Errorf("%s: %s %v, want %v", what, short(b), e, want)
	}
}

// wantFault tells whether Read tells a fault without a place, and nothing else.
func wantFault(t *testing.T, what string, b []byte, desc []bool, want api.Errno) {
	t.Helper()
	if l, f := keyenc.Read(b, desc); f != (api.Fault{Code: want, At: -1}) || len(l) != 0 {
		t.Errorf("%s: Read(%s, %v): %v %v, want %v", what, short(b), desc, l, f, want)
	}
}

// wantRow tells whether Read tells a row.
func wantRow(t *testing.T, what string, b []byte, desc []bool, want []api.Value) {
	t.Helper()
	if l, f := keyenc.Read(b, desc); f != (api.Fault{}) || !sameRows(l, want) {
		t.Errorf("%s: Read(%s, %v): %v %v, want %v", what, short(b), desc, l, f, want)
	}
}

func wantBytes(t *testing.T, what string, got, want []byte) {
	t.Helper()
	if !bytes.Equal(got, want) {
		t.Errorf("%s: got %s, want %s", what, short(got), short(want))
	}
}

// short is the bytes in words, but not too many of them.
func short(b []byte) string {
	var s strings.Builder
	for i, x := range b {
		if i == 40 {
			return s.String() + ".. (" + strconv.Itoa(len(b)) + ")"
		}
		s.WriteString(strconv.Itoa(int(x)) + " ")
	}
	return s.String()
}

// keyed are values and their bytes by the chapter's words.
func keyed() []struct {
	v    api.Value
	want []byte
} {
	twelve := "\x00\x01\xff3456789a\x00"
	return []struct {
		v    api.Value
		want []byte
	}{
		{least(), []byte{1}},
		{null(), []byte{2}},
		{most(), []byte{11}},
		{num(0), []byte{3, 128, 0, 0, 0, 0, 0, 0, 0}},
		{num(5), []byte{3, 128, 0, 0, 0, 0, 0, 0, 5}},
		{num(-1), []byte{3, 127, 255, 255, 255, 255, 255, 255, 255}},
		{num(-2), []byte{3, 127, 255, 255, 255, 255, 255, 255, 254}},
		{num(0x0102030405060708), []byte{3, 129, 2, 3, 4, 5, 6, 7, 8}},
		{num(api.MaxInt), []byte{3, 255, 255, 255, 255, 255, 255, 255, 255}},
		{num(api.MinInt), []byte{3, 0, 0, 0, 0, 0, 0, 0, 0}},
		{num(api.MinInt + 256), []byte{3, 0, 0, 0, 0, 0, 0, 1, 0}},
		{date(0x0102030405060708), []byte{10, 129, 2, 3, 4, 5, 6, 7, 8}},
		{date(-256), []byte{10, 127, 255, 255, 255, 255, 255, 255, 0}},
		{flag(0), []byte{9, 0}},
		{flag(1), []byte{9, 1}},
		{txt(""), []byte{4, 0, 0}},
		{txt("a"), []byte{4, 97, 0, 0}},
		{txt("\x00"), []byte{4, 0, 255, 0, 0}},
		{txt("\x00\x00"), []byte{4, 0, 255, 0, 255, 0, 0}},
		{txt("a\x00\x01"), []byte{4, 97, 0, 255, 1, 0, 0}},
		{txt("\u00ff"), []byte{4, 0xc3, 0xbf, 0, 0}},
		{raw(""), []byte{7, 0, 0}},
		{raw("\x00\x01"), []byte{7, 0, 255, 1, 0, 0}},
		{raw("\xff"), []byte{7, 255, 0, 0}},
		{raw("\xff\x00\xff\x80"), []byte{7, 255, 0, 255, 255, 128, 0, 0}},
		{id(twelve), append([]byte{8}, twelve...)},
		{list(), []byte{6, 0}},
		{list(null()), []byte{6, 1, 2, 0}},
		{list(num(5)), []byte{6, 1, 3, 128, 0, 0, 0, 0, 0, 0, 5, 0}},
		{list(txt("a\x00"), list(list(), flag(1)), doc()), []byte{6, 1, 4, 97, 0, 255, 0, 0, 1, 6, 1, 6, 0, 1, 9, 1, 0, 1, 5, 0, 0}},
		{doc(), []byte{5, 0}},
		{doc(of("a", flag(1))), []byte{5, 1, 97, 0, 0, 9, 1, 0}},
		{doc(of("b", null()), of("a", list()), of("\u00ff", doc(of("b", most())))), []byte{5, 1, 98, 0, 0, 2, 1, 97, 0, 0, 6, 0, 1, 0xc3, 0xbf, 0, 0, 5, 1, 98, 0, 0, 11, 0, 0}},
	}
}

// rising are values that are right, each ahead of the next one.
func rising() []api.Value {
	return []api.Value{
		least(), null(),
		num(api.MinInt), num(api.MinInt + 1), num(-1 << 32), num(-257), num(-256), num(-255), num(-1), num(0), num(1), num(255), num(256), num(1 << 32), num(api.MaxInt - 1), num(api.MaxInt),
		txt(""), txt("\x00"), txt("\x00\x00"), txt("\x00\x01"), txt("\x00a"), txt("\x01"), txt("a"), txt("a\x00"), txt("a\x00\x00"), txt("a\x00b"), txt("a\x01"), txt("aa"), txt("b"), txt("\u00ff"), txt("\U0010ffff"),
		doc(), doc(of("a", least())), doc(of("a", null())), doc(of("a", null()), of("b", null())), doc(of("a", num(1))), doc(of("a", num(1)), of("b", num(0))), doc(of("a", num(2))), doc(of("a", txt("a"))), doc(of("a", txt("a")), of("c", null())), doc(of("a", txt("aa"))), doc(of("a", doc())), doc(of("a", doc(of("a", null())))), doc(of("a", most())), doc(of("a\x01", least())), doc(of("aa", null())), doc(of("b", least())), doc(of("b", least()), of("a", least())), doc(of("\u00ff", least())),
		list(), list(least()), list(null()), list(null(), least()), list(null(), null()), list(num(1)), list(num(1), num(2)), list(num(2)), list(txt("")), list(txt(""), null()), list(txt("\x00")), list(doc()), list(list()), list(list(), list()), list(list(null())), list(list(null()), null()), list(most()), list(most(), most()),
		raw(""), raw("\x00"), raw("\x00\x00"), raw("\x00\x01"), raw("\x00\xff"), raw("\x01"), raw("\xff"), raw("\xff\x00"), raw("\xff\x00\xff"), raw("\xff\x01"), raw("\xff\xff"),
		id(strings.Repeat("\x00", 12)), id(strings.Repeat("\x00", 11) + "\x01"), id("abcdefghijkl"), id(strings.Repeat("\xff", 12)),
		flag(0), flag(1),
		date(api.MinInt), date(-1), date(0), date(1), date(api.MaxInt),
		most(),
	}
}

// dice are numbers that look like any, the same at each run.
type dice uint64

func (d *dice) below(n int) int {
	*d = *d*6364136223846793005 + 1442695040888963407
	return int(*d>>33) % n
}

// any is some right value, in which others stand at most so deep.
func (d *dice) any(deep int) api.Value {
	texts := []string{"", "a", "\x00", "a\x00", "ab", "\x00\x01", "\u00e9\u20ac", "\U0001f600\x00"}
	switch d.below(7 + 4*min(deep, 1)) {
	case 0:
		return api.Value{Kind: []int{api.KindMin, api.KindNull, api.KindMax}[d.below(3)]}
	case 1:
		return num((d.below(5) - 2) << d.below(62))
	case 2:
		return date((d.below(5) - 2) << d.below(62))
	case 3:
		return txt(texts[d.below(len(texts))])
	case 4:
		return raw(texts[d.below(len(texts))] + "\x00\xff"[d.below(3):])
	case 5:
		return id(strings.Repeat(string(rune('a'+d.below(3))), 12))
	case 6:
		return flag(d.below(2))
	case 7, 8:
		v := list()
		for range d.below(4) {
			v.List = append(v.List, d.any(deep-1))
		}
		return v
	}
	v := doc()
	for i := range d.below(4) {
		v.Doc = append(v.Doc, of([]string{"", "x", "\u00e9"}[d.below(3)]+strconv.Itoa(i), d.any(deep-1)))
	}
	return v
}

// row are some right values, and which of them fall.
func (d *dice) row() ([]api.Value, []bool) {
	l, desc := []api.Value{}, []bool{}
	for range 1 + d.below(api.MaxFields) {
		l, desc = append(l, d.any(2)), append(desc, d.below(2) == 1)
	}
	return l, desc
}

// stand is how two rows stand to one another, as P3.5 says it.
func stand(a, b []api.Value, desc []bool) int {
	for i := range a {
		if c := value.Compare(a[i], b[i]); c != 0 && desc[i] {
			return -c
		} else if c != 0 {
			return c
		}
	}
	return 0
}
