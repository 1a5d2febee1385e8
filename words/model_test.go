package words_test

import (
	"bytes"
	"slices"
	"testing"
	"unicode/utf8"

	"coffret/api"
	"coffret/words"
)

// span are runes, both ends among them, which are so much greater when folded.
type span struct{ from, to, by rune }

// letters are the chapter's, piece by piece.
func letters() []span {
	return []span{
		{48, 57, 0}, {65, 90, 32}, {97, 122, 0}, {192, 214, 32}, {216, 222, 32}, {223, 246, 0}, {248, 591, 0},
		{880, 912, 0}, {913, 939, 32}, {940, 1023, 0}, {1024, 1039, 80}, {1040, 1071, 32}, {1072, 1279, 0},
	}
}

// letter tells whether a rune is one, and which it is folded.
func letter(r rune) (rune, bool) {
	for _, x := range letters() {
		if r >= x.from && r <= x.to {
			return r + x.by, true
		}
	}
	return 0, false
}

// split is Split, word by word of the chapter: all rows first, then what is left of them.
func split(s string) []string {
	all := [][]byte{nil}
	for b := []byte(s); len(b) > 0; {
		r, wide := utf8.DecodeRune(b)
		b = b[wide:]
		to, is := letter(r)
		if !is || r == utf8.RuneError {
			all = append(all, nil)
			continue
		}
		all[len(all)-1] = append(all[len(all)-1], string(to)...)
	}
	var l []string
	for _, row := range all {
		if len(row) > 0 && len(row) <= api.MaxWord {
			l = append(l, string(row))
		}
	}
	return l[:min(len(l), api.MaxWords)]
}

// told are the words of all texts in a value.
func told(v api.Value) []string {
	var l []string
	switch v.Kind {
	case api.KindText:
		l = split(v.Text)
	case api.KindList:
		for _, x := range v.List {
			l = append(l, told(x)...)
		}
	case api.KindDoc:
		for _, f := range v.Doc {
			l = append(l, told(f.Value)...)
		}
	}
	return l
}

// count is how often a word is among these.
func count(l []string, word string) int {
	n := 0
	for _, x := range l {
		if x == word {
			n++
		}
	}
	return n
}

// terms is Terms without its error.
func terms(v api.Value) []api.Term {
	all := told(v)
	var l []api.Term
	for _, word := range all {
		if x := term(word, count(all, word)); !slices.Contains(l, x) {
			l = append(l, x)
		}
	}
	slices.SortFunc(l, func(a, b api.Term) int { return bytes.Compare([]byte(a.Word), []byte(b.Word)) })
	return l
}

// score is Score.
func score(v api.Value, s string) int {
	n, wanted := 0, split(s)
	for _, word := range told(v) {
		if slices.Contains(wanted, word) {
			n++
		}
	}
	return n
}

// TestSplitModel: Split of many texts is the model's (P9.1).
func TestSplitModel(t *testing.T) {
	d := dice(1)
	long, many := 0, 0
	for range 40000 {
		s := d.text(60)
		want := split(s)
		wantWords(t, s, s, want...)
		if len(want) == api.MaxWords {
			many++
		}
		if slices.ContainsFunc(want, func(word string) bool { return len(word) == api.MaxWord }) {
			long++
		}
	}
	if long < 100 || many < 100 {
		t.Errorf("too few: %d, %d", long, many)
	}
}

// TestTermsModel: Terms of many values is the model's (P9.2).
func TestTermsModel(t *testing.T) {
	d := dice(2)
	fine, much := 0, 0
	for range 8000 {
		v := d.any(4)
		want := terms(v)
		if len(want) > api.MaxKeys {
			much++
			wantMany(t, "more than MaxKeys", v)
			continue
		}
		if len(want) > 2 {
			fine++
		}
		wantTerms(t, "a value", v, want...)
	}
	if fine < 1000 || much < 100 {
		t.Errorf("too few: %d, %d", fine, much)
	}
}

// TestScoreModel: Score of many values is the model's (P9.3).
func TestScoreModel(t *testing.T) {
	d := dice(3)
	found := 0
	for range 8000 {
		v, s := d.any(3), d.text(30)
		want := score(v, s)
		if want > 1 {
			found++
		}
		wantScore(t, s, v, s, want)
	}
	if found < 1000 {
		t.Errorf("too few: %d", found)
	}
}

// TestSameAgain: what is told hangs on the arguments alone (W2).
func TestSameAgain(t *testing.T) {
	d := dice(4)
	for range 50 {
		v := list(txt(joined(numbered("w", 100))), d.any(1), txt(joined(numbered("v", 50))))
		first, e := words.Terms(v)
		for range 5 {
			if l, again := words.Terms(v); again != e || !slices.Equal(l, first) {
				t.Fatalf("%v and %v", first, l)
			}
		}
	}
}
