package words_test

import (
	"slices"
	"strings"
	"testing"
	"unicode"

	"coffret/api"
	"coffret/words"
)

// TestSplitExamples are the chapter's (P9.1).
func TestSplitExamples(t *testing.T) {
	wantWords(t, "a text", "Ab, cd-5! ÉTÉ", "ab", "cd", "5", "été")
	wantWords(t, "nothing", "")
	wantWords(t, "41 letters", strings.Repeat("a", 41))
	wantWords(t, "no UTF-8", "a\xffb", "a", "b")
}

// TestLetters: each rune that there is, alone and between letters, is one just as the chapter has it, and folded as it has it (P9.1).
func TestLetters(t *testing.T) {
	for r := rune(0); r <= unicode.MaxRune; r++ {
		alone, between := string(r), "x"+string(r)+"y"
		to, is := letter(r)
		if !is {
			if got := words.Split(alone); len(got) != 0 {
				t.Errorf("%d: %q", r, got)
			}
			if got := words.Split(between); !slices.Equal(got, []string{"x", "y"}) {
				t.Errorf("%d: %q", r, got)
			}
			continue
		}
		wantWords(t, alone, alone, string(to))
		wantWords(t, between, between, "x"+string(to)+"y")
	}
}

// TestEdgesOfLetters: the first and last rune of each of the chapter's spans, and those beside them (P9.1).
func TestEdgesOfLetters(t *testing.T) {
	for s, want := range map[string]string{
		"/09:": "09", "@AZ[": "az", "`az{": "az", "\u00bf\u00c0\u00d6\u00d7\u00d8\u00de\u00df": "\u00e0\u00f6|\u00f8\u00fe\u00df", "\u00f6\u00f7\u00f8": "\u00f6|\u00f8", "\u00ff\u0100\u0101\u024e\u024f\u0250": "\u00ff\u0100\u0101\u024e\u024f",
		"\u036f\u0370\u0386\u0390\u0391\u03a9\u03ab\u03ac": "\u0370\u0386\u0390\u03b1\u03c9\u03cb\u03ac", "\u03a2\u037e\u03ff": "\u03c2\u037e\u03ff", "\u0400\u040f\u0410\u042f\u0430": "\u0450\u045f\u0430\u044f\u0430", "\u0460\u0461\u04ff\u0500": "\u0460\u0461\u04ff", "\ufffda\ufffd": "a", "ªºµ": "", "٣३": "", "_a_b": "a|b", "e\u0301x": "e|x", "\u0130\u0131\u017f\u212a": "\u0130\u0131\u017f",
	} {
		wantWords(t, s, s, strings.FieldsFunc(want, func(r rune) bool { return r == '|' })...)
	}
}

// TestNoLetters: what is no UTF-8 is no letter: lone bytes, too few of them, too many, halves of pairs, beyond the last rune (P9.1).
func TestNoLetters(t *testing.T) {
	for _, s := range []string{"\x80", "\xbf", "\xc3", "\xc1\x81", "\xc0\x80", "\xe0\x83\x89", "\xe0\x81\x81", "\xed\xa0\x80", "\xed\xb0\x80", "\xf0\x80\x83\x89", "\xf4\x90\x80\x80", "\xf8\x88\x80\x80\x80", "\xfe", "\xff", "\xc3\xc3", "\xe2\x82", "\xd0"} {
		wantWords(t, "alone", s)
		wantWords(t, "ahead", s+"A", "a")
		wantWords(t, "behind", "É"+s, "é")
		wantWords(t, "between", "a"+s+"B"+s+"Ж", "a", "b", "ж")
	}
	for b := range 256 {
		if b < 128 {
			continue
		}
		wantWords(t, "a byte alone", "a"+string([]byte{byte(b)})+"b", "a", "b")
	}
}

// TestRows: words are the longest rows of letters, wherever they stand in the text (P9.1).
func TestRows(t *testing.T) {
	for s, want := range map[string][]string{
		"a": {"a"}, " a": {"a"}, "a ": {"a"}, " a ": {"a"}, "a b": {"a", "b"}, "  a \n\t b\x00c  ": {"a", "b", "c"}, "a1b2": {"a1b2"}, "007": {"007"}, "x x X": {"x", "x", "x"}, "b a": {"b", "a"}, "don't": {"don", "t"}, "aЖé9": {"aжé9"}, "日本 x": {"x"}, "日a本b": {"a", "b"}, " .,-": nil, "\x00": nil,
	} {
		wantWords(t, s, s, want...)
	}
}

// TestLongWords: one of MaxWord bytes is a word, one of more is none, and takes no other one's place (P9.1).
func TestLongWords(t *testing.T) {
	for _, letter := range []string{"a", "é", "ж", "ѐ"} {
		fits := strings.Repeat(letter, api.MaxWord/len(letter))
		wantWords(t, "fits", strings.ToUpper(fits), fits)
		wantWords(t, "a letter more", fits+letter)
		wantWords(t, "a byte more", fits+"a")
		wantWords(t, "a byte more ahead", "a"+fits)
		wantWords(t, "among others", "x "+fits+letter+" y "+fits+" Z"+fits+"-z", "x", "y", fits, "z")
		wantWords(t, "a byte less", fits[len(letter):]+" x", fits[len(letter):], "x")
	}
	wantWords(t, "39 bytes and two", strings.Repeat("a", 39)+"é x", "x")
	wantWords(t, "38 bytes and two", strings.Repeat("a", 38)+"É x", strings.Repeat("a", 38)+"é", "x")
	wantWords(t, "very long", strings.Repeat("aÉ", 1<<20)+" x "+strings.Repeat("b", 1<<20), "x")
}

// TestManyWords: the first MaxWords words count, those that are left out do not (P9.1).
func TestManyWords(t *testing.T) {
	for _, n := range []int{api.MaxWords - 1, api.MaxWords, api.MaxWords + 1, 3 * api.MaxWords} {
		l := numbered("w", n)
		wantWords(t, "many", joined(l), l[:min(n, api.MaxWords)]...)
		long := " " + strings.Repeat("a", api.MaxWord+1) + " "
		wantWords(t, "long ones between", long+strings.Join(l, long)+long, l[:min(n, api.MaxWords)]...)
		wantWords(t, "all the same", strings.Repeat("A,", n), slices.Repeat([]string{"a"}, min(n, api.MaxWords))...)
	}
	wantWords(t, "very many", strings.Repeat("a ", 1<<22), slices.Repeat([]string{"a"}, api.MaxWords)...)
	wantWords(t, "behind a lot", strings.Repeat(" \xff", 1<<22)+"A", "a")
}
