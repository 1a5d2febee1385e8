package words_test

import (
	"slices"
	"strings"
	"testing"
	"unsafe"

	"coffret/api"
	"coffret/words"
)

// roomy is v in lists that all have spare room, in which something stands.
func roomy(v api.Value) api.Value {
	l := make([]api.Value, len(v.List)+3)
	for i := range l {
		l[i] = list(txt("spare"))
	}
	for i, x := range v.List {
		l[i] = roomy(x)
	}
	d := make([]api.Field, len(v.Doc)+3)
	for i := range d {
		d[i] = of("spare", list(txt("room")))
	}
	for i, f := range v.Doc {
		d[i] = of(f.Name, roomy(f.Value))
	}
	v.List, v.Doc = l[:len(v.List)], d[:len(v.Doc)]
	return v
}

// used is v with its lists' spare room as if it were used.
func used(v api.Value) api.Value {
	out := v
	out.List, out.Doc = nil, nil
	for _, x := range v.List[:cap(v.List)] {
		out.List = append(out.List, used(x))
	}
	for _, f := range v.Doc[:cap(v.Doc)] {
		out.Doc = append(out.Doc, of(f.Name, used(f.Value)))
	}
	return out
}

// same tells whether two values are the same.
func same(a, b api.Value) bool {
	sameField := func(x, y api.Field) bool { return x.Name == y.Name && same(x.Value, y.Value) }
	return a.Kind == b.Kind && a.Int == b.Int && a.Text == b.Text && slices.EqualFunc(a.List, b.List, same) && slices.EqualFunc(a.Doc, b.Doc, sameField)
}

// TestNothingChanged: what is handed in stays as it is, spare room too, and none of that room is looked at (P9.4).
func TestNothingChanged(t *testing.T) {
	d := dice(8)
	for range 3000 {
		v, s := d.any(4), d.text(20)
		handed := roomy(v)
		before := used(handed)
		want, wantE := words.Terms(v)
		got, e := words.Terms(handed)
		if e != wantE || !slices.Equal(got, want) {
			t.Fatal("spare room is looked at")
		}
		wantScore(t, "spare room", handed, s, words.Score(v, s))
		if !same(used(handed), before) {
			t.Fatal("changed")
		}
	}
}

// TestNothingKept: what is done to an answer, or to what was handed in, changes no later answer (P9.4).
func TestNothingKept(t *testing.T) {
	s := "Ab c é"
	v := list(txt(s), txt(s))
	l := words.Split(s)
	for i := range l[:cap(l)] {
		l[:cap(l)][i] = "wild"
	}
	wantWords(t, "again", s, "ab", "c", "é")
	terms, _ := words.Terms(v)
	for i := range terms[:cap(terms)] {
		terms[:cap(terms)][i] = term("wild", 5)
	}
	wantTerms(t, "again", v, term("ab", 2), term("c", 2), term("é", 2))
	v.List[0] = txt("other")
	wantTerms(t, "another value", v, term("ab", 1), term("c", 1), term("other", 1), term("é", 1))
	wantScore(t, "another value", v, "other ab", 2)
}

// within tells whether a text lies in another one's memory.
func within(word, s string) bool {
	at, from := uintptr(unsafe.Pointer(unsafe.StringData(word))), uintptr(unsafe.Pointer(unsafe.StringData(s)))
	return at >= from && at < from+uintptr(len(s))
}

// TestNewMemory: no word lies in the text in which it was found, not even one that is folded already (P9.4).
func TestNewMemory(t *testing.T) {
	for _, s := range []string{"abc", "Abc", "some words été жж 12", strings.Repeat("a", api.MaxWord), "x" + strings.Repeat(" yy", 300)} {
		s = strings.Clone(s)
		first, second := words.Split(s), words.Split(s)
		for i, word := range first {
			if within(word, s) || within(second[i], s) {
				t.Errorf("Split: %q lies in the text", word)
			}
		}
		if unsafe.SliceData(first) == unsafe.SliceData(second) {
			t.Error("Split: two answers share their list")
		}
		terms, e := words.Terms(list(txt(s), doc(of("k", txt(s)))))
		for _, x := range terms {
			if within(x.Word, s) {
				t.Errorf("Terms: %q lies in the text", x.Word)
			}
		}
		if e != api.OK || len(terms) == 0 {
			t.Error(e)
		}
	}
}
