package words_test

import (
	"slices"
	"strconv"
	"strings"
	"testing"

	"coffret/api"
	"coffret/words"
)

func num(n int) api.Value { return api.Value{Kind: api.KindInt, Int: n} }

func txt(s string) api.Value { return api.Value{Kind: api.KindText, Text: s} }

func list(l ...api.Value) api.Value { return api.Value{Kind: api.KindList, List: l} }

func doc(l ...api.Field) api.Value { return api.Value{Kind: api.KindDoc, Doc: l} }

func of(name string, v api.Value) api.Field { return api.Field{Name: name, Value: v} }

func term(word string, count int) api.Term { return api.Term{Word: word, Count: count} }

// numbered are so many words, no two the same: begin with 0, 1 and so on behind it, all three digits long.
func numbered(begin string, n int) []string {
	var l []string
	for i := range n {
		l = append(l, begin+strconv.Itoa(1000 + i)[1:])
	}
	return l
}

// joined is a text of words with a blank between each two.
func joined(l []string) string { return strings.Join(l, " ") }

// nest is v within so many lists, or documents.
func nest(v api.Value, many int, docs bool) api.Value {
	for range many {
		if docs {
			v = doc(of("a", v))
		} else {
			v = list(v)
		}
	}
	return v
}

// flat are values of all kinds in which there is no text, though some hold one that their kind does not use.
func flat(s string) []api.Value {
	var l []api.Value
	for kind := -1; kind < 14; kind++ {
		v := api.Value{Kind: kind, Int: 1, Text: s, List: []api.Value{txt(s)}, Doc: []api.Field{of("a", txt(s))}}
		switch kind {
		case api.KindText:
			continue
		case api.KindList:
			v.List = nil
		case api.KindDoc:
			v.Doc = nil
		}
		l = append(l, v)
	}
	return l
}

func wantWords(t *testing.T, what, s string, want ...string) {
	t.Helper()
	if got := words.Split(s); !slices.Equal(got, want) {
		t.Errorf("%s: %d words: %q, want %d: %q", what, len(got), got[:min(len(got), 10)], len(want), want[:min(len(want), 10)])
	}
}

func wantTerms(t *testing.T, what string, v api.Value, want ...api.Term) {
	t.Helper()
	if got, e := words.Terms(v); e != api.OK || !slices.Equal(got, want) {
		t.Errorf("%s: %v, %d terms: %v, want %d: %v", what, e, len(got), got[:min(len(got), 10)], len(want), want[:min(len(want), 10)])
	}
}

func wantMany(t *testing.T, what string, v api.Value) {
	t.Helper()
	if got, e := words.Terms(v); e != api.ErrIndexMany || len(got) != 0 {
		t.Errorf("%s: %v, %d terms", what, e, len(got))
	}
}

func wantScore(t *testing.T, what string, v api.Value, s string, want int) {
	t.Helper()
	if got := words.Score(v, s); got != want {
		t.Errorf("%s: %d, want %d", what, got, want)
	}
}

// dice are numbers that look like any, the same at each run.
type dice uint64

func (d *dice) below(n int) int {
	*d = *d*6364136223846793005 + 1442695040888963407
	return int(*d>>33) % n
}

// piece is a rune, or a few, or what is no UTF-8: of what the chapter names, and what lies beside it.
func (d *dice) piece() string {
	l := []string{"a", "B", "0", " ", " ", ",", "É", "é", "×", "÷", "Σ", "σ", "ς", "Ж", "ж", "Ѐ", "ѐ", "\xff", "\xc3", "\xc1\x81", "\xed\xa0\x80", "日", "ӿ", "\u0500", "ɏ", "ɐ", "Ͱ", "\u036f", "aaaaaaaaaa", "ÉÉÉÉÉÉÉÉÉÉ", strings.Repeat("b", 39), strings.Repeat("Ж", 20), "a ", "b ", "A ", "B ", "c ", "x y z "}
	if d.below(10) == 0 {
		return string(rune(d.below(1300)))
	}
	return l[d.below(len(l))]
}

// text is one of at most so many pieces; sometimes with many words ahead of them.
func (d *dice) text(most int) string {
	var b strings.Builder
	if d.below(20) == 0 {
		b.WriteString(joined(numbered("w", 190+d.below(20))) + " ")
	}
	for range d.below(most + 1) {
		b.WriteString(d.piece())
	}
	return b.String()
}

// any is some value, in which others stand at most so deep.
func (d *dice) any(deep int) api.Value {
	kind := d.below(10)
	switch {
	case deep == 0 || kind < 4:
		if d.below(6) == 0 {
			l := flat("a b")
			return l[d.below(len(l))]
		}
		return txt(d.text(12))
	case kind < 7:
		v := list()
		for range d.below(5) {
			v.List = append(v.List, d.any(deep-1))
		}
		return v
	}
	v := doc()
	for range d.below(5) {
		v.Doc = append(v.Doc, of(d.piece(), d.any(deep-1)))
	}
	return v
}
