package expr_test

import (
	"strings"
	"testing"

	"coffret/api"
)

// TestTexts: pieces of texts, by runes (P5.3).
func TestTexts(t *testing.T) {
	wantRows(t, sample(), []row{
		{`{"$concat": "a"}`, `"a"`}, {`{"$concat": ["a", "", "bé", "$b"]}`, `"abéxy"`}, {`{"$concat": ["", ""]}`, `""`}, {`{"$concat": ["a", 1]}`, `ErrExprKind`},
		{`{"$lower": "aBZ[@é É0"}`, `"abz[@é É0"`}, {`{"$upper": "aBz{` + "`" + `é É0"}`, `"ABZ{` + "`" + `é É0"`}, {`{"$lower": ""}`, `""`}, {`{"$upper": [""]}`, `""`}, {`{"$lower": "ABCDEFGHIJKLMNOPQRSTUVWXYZ"}`, `"abcdefghijklmnopqrstuvwxyz"`}, {`{"$upper": "abcdefghijklmnopqrstuvwxyz"}`, `"ABCDEFGHIJKLMNOPQRSTUVWXYZ"`}, {`{"$upper": "ß ı K"}`, `"ß ı K"`},
		{`{"$length": ""}`, `0`}, {`{"$length": "héllo"}`, `5`}, {`{"$length": "a\u0000😀"}`, `3`}, {`{"$length": "e\u0301"}`, `2`},
		{`{"$part": ["héllo", 1, 2]}`, `"él"`}, {`{"$part": ["héllo", 0, 5]}`, `"héllo"`}, {`{"$part": ["héllo", 0, 6]}`, `"héllo"`}, {`{"$part": ["héllo", 4, 9]}`, `"o"`}, {`{"$part": ["héllo", 5, 1]}`, `""`}, {`{"$part": ["héllo", 9, 1]}`, `""`}, {`{"$part": ["héllo", -3, 2]}`, `"hé"`}, {`{"$part": ["héllo", 1, 0]}`, `""`}, {`{"$part": ["héllo", 1, -1]}`, `""`}, {`{"$part": ["", 0, 1]}`, `""`}, {`{"$part": ["😀é", 1, 1]}`, `"é"`},
		{`{"$part": ["héllo", 1, 9223372036854775807]}`, `"éllo"`}, {`{"$part": ["héllo", 9223372036854775807, 9223372036854775807]}`, `""`}, {`{"$part": ["héllo", -9223372036854775808, 9223372036854775807]}`, `"héllo"`}, {`{"$part": ["héllo", 9223372036854775807, -9223372036854775808]}`, `""`}, {`{"$part": ["héllo", -9223372036854775808, 1]}`, `"h"`},
		{`{"$find": ["héllo", "l"]}`, `2`}, {`{"$find": ["héllo", "lo"]}`, `3`}, {`{"$find": ["héllo", "x"]}`, `-1`}, {`{"$find": ["héllo", ""]}`, `0`}, {`{"$find": ["", ""]}`, `0`}, {`{"$find": ["", "a"]}`, `-1`}, {`{"$find": ["ééa", "éa"]}`, `1`}, {`{"$find": ["a", "ab"]}`, `-1`}, {`{"$find": ["abab", "ab"]}`, `0`}, {`{"$find": ["aaab", "aab"]}`, `1`},
		{`{"$split": ["a,b,", ","]}`, `["a", "b", ""]`}, {`{"$split": ["", ","]}`, `[""]`}, {`{"$split": ["abc", "abc"]}`, `["", ""]`}, {`{"$split": ["aaa", "aa"]}`, `["", "a"]`}, {`{"$split": ["a", "ab"]}`, `["a"]`}, {`{"$split": ["a", ""]}`, `ErrExprKind`}, {`{"$split": ["", ""]}`, `ErrExprKind`}, {`{"$split": [",,", ","]}`, `["", "", ""]`}, {`{"$split": ["aéé€", "é"]}`, `["a", "", "€"]`}, {`{"$split": ["1--2-3", "--"]}`, `["1", "2-3"]`},
	})
}

// TestParts: of all places and numbers near to a text's and a list's ends (P5.3).
func TestParts(t *testing.T) {
	runes := []string{"h", "é", "😀", "l", "o"}
	var l []api.Value
	for i := range runes {
		l = append(l, num(i))
	}
	for from := -3; from < 9; from++ {
		for many := -3; many < 9; many++ {
			start := min(max(from, 0), len(runes))
			end := min(start+max(many, 0), len(runes))
			wantValue(t, call("$part", txt(strings.Join(runes, "")), num(from), num(many)), doc(), txt(strings.Join(runes[start:end], "")), api.OK)
			wantValue(t, call("$slice", list(l...), num(from), num(many)), doc(), list(l[start:end]...), api.OK)
		}
		want := api.Value{}
		if from >= 0 && from < len(l) {
			want = num(from)
		} else if from < 0 {
			want = num(len(l) + from)
		}
		wantValue(t, call("$at", list(l...), num(from)), doc(), want, api.OK)
	}
}

// TestRawTexts: bytes of a text that is no UTF-8 stay (P5.3).
func TestRawTexts(t *testing.T) {
	d := doc(of("x", txt("A\xffb")))
	wantValue(t, op("$lower", txt("$x")), d, txt("a\xffb"), api.OK)
	wantValue(t, op("$upper", txt("$x")), d, txt("A\xffB"), api.OK)
	wantValue(t, call("$part", txt("$x"), num(1), num(2)), d, txt("\xffb"), api.OK)
	wantValue(t, op("$length", txt("$x")), d, num(3), api.OK)
	wantValue(t, call("$split", txt("$x"), txt("b")), d, list(txt("A\xff"), txt("")), api.OK)
}
