package path_test

import (
	"slices"
	"strings"
	"testing"

	"coffret/api"
	"coffret/path"
)

// ten is a path of as many parts as there may be.
const ten = "a.b.c.d.e.f.g.h.i.j"

func TestSplit(t *testing.T) {
	full := strings.Repeat("n", api.MaxName)
	for p, want := range map[string][]string{
		"a.b":                                   {"a", "b"},
		"a":                                     {"a"},
		"a.a.a":                                 {"a", "a", "a"},
		"0":                                     {"0"},
		"l.0.00.-1":                             {"l", "0", "00", "-1"},
		"a$.b$c.d":                              {"a$", "b$c", "d"},
		" . a .\t":                              {" ", " a ", "\t"},
		"\x01.\u00e9\u20ac":                     {"\x01", "\u00e9\u20ac"},
		"\ufffd.\U0010ffff":                     {"\ufffd", "\U0010ffff"},
		"_id":                                   {"_id"},
		ten:                                     {"a", "b", "c", "d", "e", "f", "g", "h", "i", "j"},
		full:                                    {full},
		"a." + full:                             {"a", full},
		strings.Repeat("\u00e9", 50) + ".x":     {strings.Repeat("\u00e9", 50), "x"},
		strings.Repeat(full+".", 9) + full:      slices.Repeat([]string{full}, 10),
		strings.Repeat("0.", 9) + "0":           slices.Repeat([]string{"0"}, 10),
		strings.Repeat("\U0001f600", 25) + ".b": {strings.Repeat("\U0001f600", 25), "b"},
	} {
		if l, e := path.Split(p); e != api.OK || !slices.Equal(l, want) {
			t.Errorf("Split(%q): %q %v, want %q", p, l, e, want)
		}
	}
}

// TestSplitOfNoPath: ErrPath alone (P4.1).
func TestSplitOfNoPath(t *testing.T) {
	for _, p := range []string{
		"", ".", "..", "a.", ".a", "a..b", "a.b.", ".a.b",
		"$", "$a", "a.$", "a.$b", "$a.b", "a.$.b", "a.b.$$", "$.a",
		"\x00", "a\x00", "a.b\x00c", "\x00.a",
		"\xff", "a.\xff", "\xff.a", "\xc3.\xa9", "a\xed\xa0\x80", "a.\xc3",
		ten + ".k", ten + ".", "." + ten, ten + "." + ten, strings.Repeat("0.", 10) + "0",
		strings.Repeat("n", api.MaxName+1), "a." + strings.Repeat("n", api.MaxName+1), strings.Repeat("\u00e9", 50) + "a", strings.Repeat("n", api.MaxName+1) + ".a",
		strings.Repeat("n", api.MaxDoc+1), strings.Repeat(".", 1<<22), strings.Repeat("a.", 1<<22) + "a", strings.Repeat("a", 1<<22),
	} {
		if l, e := path.Split(p); e != api.ErrPath || len(l) != 0 {
			t.Errorf("Split(%.40q): %d parts, %v", p, len(l), e)
		}
	}
}

// TestSplitBytes: of each byte, alone, within a part and ahead of one, whether it may be (P4.1).
func TestSplitBytes(t *testing.T) {
	for c := range 256 {
		s := string([]byte{byte(c)})
		for _, x := range []struct {
			p    string
			want []string
			no   string
		}{
			{s, []string{s}, "\x00.$"},
			{s + "a", []string{s + "a"}, "\x00.$"},
			{"a" + s + "b", []string{"a" + s + "b"}, "\x00"},
			{"a." + s, []string{"a", s}, "\x00.$"},
		} {
			if c == '.' && x.p == "a.b" {
				x.want = []string{"a", "b"}
			}
			l, e := path.Split(x.p)
			if bad := c > 127 || strings.Contains(x.no, s); bad != (e == api.ErrPath) || !bad && (e != api.OK || !slices.Equal(l, x.want)) {
				t.Errorf("Split(%q): %q %v", x.p, l, e)
			}
		}
	}
}
