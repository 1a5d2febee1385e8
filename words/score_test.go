package words_test

import (
	"slices"
	"strings"
	"testing"

	"coffret/api"
)

// TestScore: the examples, and values of few texts (P9.3).
func TestScore(t *testing.T) {
	wantScore(t, "a text", txt("a b a c"), "A x", 2)
	wantScore(t, "no text", num(5), "a", 0)
	wantScore(t, "no words", txt("a b"), "", 0)
	wantScore(t, "no letters", txt("a , b"), ", -", 0)
	wantScore(t, "an empty text", txt(""), "a", 0)
	wantScore(t, "all of them", txt("a b a c"), "c b a", 4)
	wantScore(t, "a word twice counts once", txt("a b a c"), "a A a", 2)
	wantScore(t, "words, not pieces of them", txt("ab a ba"), "a", 1)
	wantScore(t, "folded", txt("ÉTÉ été Été"), "éTé", 3)
	wantScore(t, "numbers as words", list(num(5), txt("5 05")), "5", 1)
	wantScore(t, "all texts", list(txt("a"), doc(of("b", txt("A")), of("c", list(txt("a-b")))), num(1), txt("b")), "a", 3)
	for _, v := range flat("a") {
		wantScore(t, "a kind without texts", v, "a", 0)
		wantScore(t, "beside a text", list(v, txt("a"), doc(of("a", v))), "a", 1)
	}
}

// TestScoreLimits: which words are left out, here and there (P9.3).
func TestScoreLimits(t *testing.T) {
	w, v := joined(numbered("w", api.MaxWords+1)), joined(numbered("v", api.MaxWords+1))
	wantScore(t, "of each text the first ones", list(txt(w), txt(v)), "w007 v008 w200 v200", 2)
	wantScore(t, "of what is asked the first ones", list(txt("w000 w199"), txt("w200")), w, 2)
	wantScore(t, "the last of them", txt("x"), joined(numbered("w", api.MaxWords-1))+" x", 1)
	wantScore(t, "one past it", txt("x"), joined(numbered("w", api.MaxWords))+" x", 0)
	wantScore(t, "the same ones have places, too", txt("x"), strings.Repeat("a ", api.MaxWords)+"x", 0)
	wantScore(t, "both", txt(w), w, api.MaxWords)
	wantScore(t, "more than MaxKeys words", list(txt(w), txt(v), txt("x X")), "x", 2)
	fits := strings.Repeat("a", api.MaxWord)
	wantScore(t, "a long word", txt(fits+" "+fits+"a"), fits, 1)
	wantScore(t, "a word that is too long", txt(fits+" "+fits+"a"), fits+"a", 0)
	wantScore(t, "much", list(slices.Repeat([]api.Value{txt(w)}, 1000)...), w, 1000*api.MaxWords)
}
