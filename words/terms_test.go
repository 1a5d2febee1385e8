package words_test

import (
	"slices"
	"strings"
	"testing"

	"coffret/api"
	"coffret/words"
)

// TestTerms: the example, and values of few texts (P9.2).
func TestTerms(t *testing.T) {
	wantTerms(t, "the example", list(txt("b a"), doc(of("k", txt("A c")))), term("a", 2), term("b", 1), term("c", 1))
	wantTerms(t, "one text", txt("x y x"), term("x", 2), term("y", 1))
	wantTerms(t, "an empty text", txt(""))
	wantTerms(t, "no letters", list(txt(" ,"), doc(of("a", txt("日")))))
	wantTerms(t, "an empty list", list())
	wantTerms(t, "an empty document", doc())
	wantTerms(t, "folded", txt("É é Ж ж e"), term("e", 1), term("é", 2), term("ж", 2))
	wantTerms(t, "the same name twice", doc(of("a", txt("x")), of("a", txt("x"))), term("x", 2))
	wantTerms(t, "texts stay apart", list(txt("a"), txt("b"), txt("")), term("a", 1), term("b", 1))
	wantTerms(t, "names are no texts", doc(of("name", txt("x")), of("other", num(1))), term("x", 1))
	wantTerms(t, "a long word", list(txt(strings.Repeat("a", 41)), txt(strings.Repeat("b", 40))), term(strings.Repeat("b", 40), 1))
}

// TestTermsOfKinds: only texts tell words, and only what the kind uses (P9.2).
func TestTermsOfKinds(t *testing.T) {
	for _, v := range flat("a b") {
		wantTerms(t, "a kind without texts", v)
		wantTerms(t, "in a list", list(txt("x"), v, txt("x")), term("x", 2))
		wantTerms(t, "in a document", doc(of("k", v), of("l", txt("x"))), term("x", 1))
	}
	all := api.Value{Text: "a", List: []api.Value{txt("b")}, Doc: []api.Field{of("k", txt("c"))}}
	for kind, want := range map[int]string{api.KindText: "a", api.KindList: "b", api.KindDoc: "c"} {
		all.Kind = kind
		wantTerms(t, "what the kind uses", all, term(want, 1))
		wantScore(t, "what the kind uses", all, "a b c", 1)
	}
}

// TestTermsOrder: by the words' bytes, not as they stand (P9.2).
func TestTermsOrder(t *testing.T) {
	wantTerms(t, "bytes", txt("ж ӿ é z aa a 9 10 Z ab ß σ ÿ b1"), term("10", 1), term("9", 1), term("a", 1), term("aa", 1), term("ab", 1), term("b1", 1), term("z", 2), term("ß", 1), term("é", 1), term("ÿ", 1), term("σ", 1), term("ж", 1), term("ӿ", 1))
	l := numbered("w", api.MaxKeys)
	slices.Reverse(l)
	got, e := words.Terms(txt(joined(l)))
	if e != api.OK || len(got) != api.MaxKeys {
		t.Fatal(len(got), e)
	}
	for i, x := range got {
		if x != term(l[len(l)-1-i], 1) {
			t.Errorf("%d: %v", i, x)
		}
	}
}

// TestTermsCounts: of each text MaxWords words count, however many texts there are (P9.2).
func TestTermsCounts(t *testing.T) {
	long := txt(strings.Repeat("a ", api.MaxWords-1) + "B c")
	wantTerms(t, "one", long, term("a", 199), term("b", 1))
	wantTerms(t, "three", list(long, doc(of("k", long)), list(list(long))), term("a", 3*199), term("b", 3))
	wantTerms(t, "many", list(slices.Repeat([]api.Value{long}, 5000)...), term("a", 5000*199), term("b", 5000))
}

// TestTermsMany: at most MaxKeys words that are not the same, of whichever texts (P9.2).
func TestTermsMany(t *testing.T) {
	all, more := txt(joined(numbered("w", api.MaxKeys))), txt(joined(numbered("w", api.MaxKeys+1)))
	for _, v := range []api.Value{all, more, list(all, all), list(more, more, txt("w007 w199")), doc(of("a", all), of("b", txt("W000, W001"))), list(all, txt("日, "+strings.Repeat("a", 41)), num(5))} {
		if l, e := words.Terms(v); e != api.OK || len(l) != api.MaxKeys {
			t.Error(len(l), e)
		}
	}
	for _, v := range []api.Value{list(all, txt("x")), list(txt("x"), all), list(more, txt("w200")), doc(of("a", txt("x")), of("b", list(all))), list(all, txt("x"), all, num(5)), list(txt(joined(numbered("w", 150))), txt(joined(numbered("v", 51))))} {
		wantMany(t, "one more", v)
	}
	var single []api.Value
	for _, word := range numbered("w", api.MaxKeys+1) {
		single = append(single, txt(word))
	}
	wantMany(t, "a text each", list(single...))
	if l, e := words.Terms(list(single[1:]...)); e != api.OK || len(l) != api.MaxKeys {
		t.Error(len(l), e)
	}
}

// TestDeep: values nested as deep as the bound has it, and many texts (W1, P9.2, P9.3).
func TestDeep(t *testing.T) {
	for _, docs := range []bool{false, true} {
		v := nest(txt("A b a"), 1<<16-1, docs)
		wantTerms(t, "deep", v, term("a", 2), term("b", 1))
		wantScore(t, "deep", v, "a", 2)
	}
	many := list(slices.Repeat([]api.Value{txt("a B")}, 1<<20)...)
	wantTerms(t, "many", many, term("a", 1<<20), term("b", 1<<20))
	wantScore(t, "many", many, "b c", 1<<20)
}
