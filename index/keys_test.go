package index_test

import (
	"slices"
	"strings"
	"testing"

	"coffret/api"
)

// example is the chapter's d.
func example() api.Value {
	return doc(of("a", list(num(5), num(7))), of("b", txt("x y x")), of("t", date(1000)))
}

// TestKeysExamples: the chapter's (P10.2).
func TestKeysExamples(t *testing.T) {
	d, both := example(), list(num(5), num(7))
	wantKeys(t, "a", on(up("a")), d, each(num(5), num(7), both)...)
	wantKeys(t, "b, falling", on(down("b")), d, row(txt("x y x")))
	wantKeys(t, "z", on(up("z")), d, row(null()))
	wantKeys(t, "a.z", on(up("a.z")), d, row(null()))
	wantKeys(t, "a, b", on(up("a"), up("b")), d, row(num(5), txt("x y x")), row(num(7), txt("x y x")), row(both, txt("x y x")))
	wantKeys(t, "Text", text("b"), d, count("x", 2), count("y", 1))
}

// TestKeysBytes: the very bytes (P10.2).
func TestKeysBytes(t *testing.T) {
	d := doc(of("a", list(num(-1), txt("a"))), of("b", null()))
	wantBytes(t, "rising", on(up("a")), d,
		[]byte{3, 127, 255, 255, 255, 255, 255, 255, 255}, []byte{4, 97, 0, 0}, []byte{6, 1, 3, 127, 255, 255, 255, 255, 255, 255, 255, 1, 4, 97, 0, 0, 0})
	wantBytes(t, "falling", on(down("a")), d,
		[]byte{249, 254, 252, 128, 0, 0, 0, 0, 0, 0, 0, 254, 251, 158, 255, 255, 255}, []byte{251, 158, 255, 255}, []byte{252, 128, 0, 0, 0, 0, 0, 0, 0})
	wantBytes(t, "two", on(up("b"), down("c")), d, []byte{2, 253})
	wantBytes(t, "four", on(down("x"), up("b"), down("c"), up("y")), d, []byte{253, 2, 253, 2})
	wantBytes(t, "Text", text("a"), d, []byte{4, 97, 0, 0, 3, 128, 0, 0, 0, 0, 0, 0, 1})
}

// TestKeysOfOne: what one path shows (P10.2).
func TestKeysOfOne(t *testing.T) {
	ab := doc(of("a", num(1)), of("b", num(2)))
	for _, x := range []struct {
		path string
		v    api.Value
		want []api.Value
	}{
		{"v", num(5), row(num(5))},
		{"v", null(), row(null())},
		{"v", doc(), row(doc())},
		{"v", ab, row(ab)},
		{"v.a", ab, row(num(1))},
		{"v.c", ab, row(null())},
		{"v.a.x", ab, row(null())},
		{"v", list(), row(list())},
		{"v.0", list(), row(null())},
		{"v.a", list(), row(null())},
		{"v.a", list(num(1), null()), row(null())},
		{"v.0", list(num(1)), row(num(1))},
		{"v.1", list(num(1)), row(null())},
		{"v.0", list(list(num(1), num(2))), row(num(1), num(2), list(num(1), num(2)))},
		{"v", list(num(7), num(5)), row(num(5), num(7), list(num(7), num(5)))},
		{"v", list(num(5), num(5), num(5)), row(num(5), list(num(5), num(5), num(5)))},
		{"v", list(null()), row(null(), list(null()))},
		{"v", list(list(), list(num(5))), row(list(), list(num(5)), list(list(), list(num(5))))},
		{"v", list(list(list(num(5)))), row(list(list(num(5))), list(list(list(num(5)))))},
		{"v", list(ab), row(ab, list(ab))},
		{"v.a", list(ab, doc(), ab), row(null(), num(1))},
		{"v.a", list(doc(of("a", num(3))), num(9), doc(of("a", num(1)))), row(num(1), num(3))},
		{"v.a", list(doc(of("a", list(num(3), num(1)))), doc(of("a", num(3)))), row(num(1), num(3), list(num(3), num(1)))},
		{"v.a", list(doc(of("a", null())), doc()), row(null())},
		{"v.0", list(doc(of("0", num(3)))), row(num(3), doc(of("0", num(3))))},
		{"v", list(list(num(5)), num(5)), row(num(5), list(num(5)), list(list(num(5)), num(5)))},
	} {
		d := doc(of("u", num(0)), of("v", x.v), of("w", list(num(8))))
		wantKeys(t, x.path, on(up(x.path)), d, each(x.want...)...)
		slices.Reverse(x.want)
		wantKeys(t, x.path+", falling", on(down(x.path)), d, each(x.want...)...)
	}
	wantKeys(t, "no fields", on(up("a")), doc(), row(null()))
	wantKeys(t, "all kinds", on(up("a")), doc(of("a", list(kinds()...))), each(slices.Insert(kinds(), 5, list(kinds()...))...)...)
}

// TestKeysUnlike: what is unlike has a key each, however near it is (P10.2).
func TestKeysUnlike(t *testing.T) {
	l := row(num(0), num(1), txt(""), txt("\x00"), txt("\x00\x00"), txt("1"), doc(), doc(of("a", null())), list(list()), api.Value{Kind: api.KindBytes}, api.Value{Kind: api.KindBytes, Text: "1"}, api.Value{Kind: api.KindBool}, api.Value{Kind: api.KindBool, Int: 1}, date(0), date(1))
	twice := doc(of("a", list(append(slices.Clone(l), l...)...)))
	wantMany(t, "rising", on(up("a")), twice, len(l)+1)
	wantMany(t, "falling", on(down("a")), twice, len(l)+1)
	wantMany(t, "with null", on(down("a"), up("z")), twice, len(l)+1)
	wantMany(t, "with what it has at 1", on(up("a"), down("a.1")), twice, 2*(len(l)+1)) // null, too: of its documents none has a field 1
}

// TestKeysOfSeveral: each choice of one value for each path (P10.2).
func TestKeysOfSeveral(t *testing.T) {
	d := doc(of("a", list(num(2), num(1), num(2))), of("b", list(doc(of("c", txt("x"))), doc())), of("e", date(5)))
	a := list(num(2), num(1), num(2))
	wantKeys(t, "both rise", on(up("a"), up("b.c")), d, row(num(1), null()), row(num(1), txt("x")), row(num(2), null()), row(num(2), txt("x")), row(a, null()), row(a, txt("x")))
	wantKeys(t, "the second one falls", on(up("a"), down("b.c")), d, row(num(1), txt("x")), row(num(1), null()), row(num(2), txt("x")), row(num(2), null()), row(a, txt("x")), row(a, null()))
	wantKeys(t, "the first one falls", on(down("a"), up("b.c")), d, row(a, null()), row(a, txt("x")), row(num(2), null()), row(num(2), txt("x")), row(num(1), null()), row(num(1), txt("x")))
	wantKeys(t, "turned round", on(up("b.c"), up("a")), d, row(null(), num(1)), row(null(), num(2)), row(null(), a), row(txt("x"), num(1)), row(txt("x"), num(2)), row(txt("x"), a))
	wantKeys(t, "three", on(up("e"), down("b.c"), up("z")), d, row(date(5), txt("x"), null()), row(date(5), null(), null()))
	wantKeys(t, "four", on(up("z"), up("b.c"), up("e"), down("a.1")), d, row(null(), null(), date(5), num(1)), row(null(), txt("x"), date(5), num(1)))
	wantKeys(t, "one within the other", on(up("b"), up("b.c")), doc(of("b", doc(of("c", num(3))))), row(doc(of("c", num(3))), num(3)))
	wantKeys(t, "texts that go on", on(up("a"), up("b")), doc(of("a", list(txt("x"), txt("xx"))), of("b", list(txt("xy"), txt("y")))),
		row(txt("x"), txt("xy")), row(txt("x"), txt("y")), row(txt("x"), list(txt("xy"), txt("y"))), row(txt("xx"), txt("xy")), row(txt("xx"), txt("y")), row(txt("xx"), list(txt("xy"), txt("y"))),
		row(list(txt("x"), txt("xx")), txt("xy")), row(list(txt("x"), txt("xx")), txt("y")), row(list(txt("x"), txt("xx")), list(txt("xy"), txt("y"))))
}

// TestKeysOfTexts: words of texts that the paths show, and of nothing else (P10.2).
func TestKeysOfTexts(t *testing.T) {
	d := doc(of("a", list(txt("b a"), num(5), txt("A, c"), list(txt("deep")), doc(of("k", txt("below"))), null())), of("b", txt("a É")), of("k", list(doc(of("k", txt("c c"))), doc(of("k", list(txt("d")))))))
	wantKeys(t, "of a list", text("a"), d, count("a", 2), count("b", 1), count("c", 1))
	wantKeys(t, "of an element that is a list", text("a.3"), d, count("deep", 1))
	wantKeys(t, "of a document in a list", text("a.k"), d, count("below", 1))
	wantKeys(t, "of a text", text("b"), d, count("a", 1), count("é", 1))
	wantKeys(t, "of several documents", text("k.k"), d, count("c", 2), count("d", 1))
	wantKeys(t, "of two fields", text("b", "a"), d, count("a", 3), count("b", 1), count("c", 1), count("é", 1))
	wantKeys(t, "of four fields", text("k.k", "a", "z", "b"), d, count("a", 3), count("b", 1), count("c", 3), count("d", 1), count("é", 1))
	wantKeys(t, "of one text twice", text("a", "a.0"), d, count("a", 3), count("b", 2), count("c", 1))
	wantKeys(t, "of the same texts", text("a"), doc(of("a", list(txt("x y"), txt("x y"), txt("y")))), count("x", 2), count("y", 3))
	for _, p := range []string{"z", "k", "b.a", "a.z", "a.1", "a.5"} {
		wantKeys(t, "without texts", text(p), d)
	}
	wantKeys(t, "no fields", text("a"), doc())
	wantKeys(t, "no words", text("a"), doc(of("a", list(txt(""), txt(" , 日")))))
	wantKeys(t, "other kinds", text("a"), doc(of("a", list(kinds()...))), count("x", 1))
	wantKeys(t, "beside what has none", text("z", "b"), d, count("a", 1), count("é", 1))
	wantKeys(t, "words in the order of their bytes", text("a"), doc(of("a", txt("é z 10 9 aa a b"))), count("10", 1), count("9", 1), count("a", 1), count("aa", 1), count("b", 1), count("z", 1), count("é", 1))
}

// TestKeysOfManyWords: each text has its own first MaxWords words, each word at most MaxWord bytes (P10.2).
func TestKeysOfManyWords(t *testing.T) {
	full := strings.Repeat("x ", api.MaxWords)
	wantKeys(t, "of one text", text("a"), doc(of("a", txt(full+"y"))), count("x", api.MaxWords))
	wantKeys(t, "of two texts", text("a", "b"), doc(of("a", txt(full+"y")), of("b", list(txt(full), txt("y z")))), count("x", 2*api.MaxWords), count("y", 1), count("z", 1))
	long := strings.Repeat("w", api.MaxWord)
	wantKeys(t, "a long word", text("a"), doc(of("a", txt(long+" a "+long+"w"))), count("a", 1), count(long, 1))
}

// TestKeysHangOnTheFields: Name, Unique and Expire change no key (P10.2).
func TestKeysHangOnTheFields(t *testing.T) {
	x := expiring(down("a"), 60)
	x.Name, x.Unique = "other", true
	wantKeys(t, "one field", x, example(), each(list(num(5), num(7)), num(7), num(5))...)
	y := text("b")
	y.Name = "b"
	wantKeys(t, "Text", y, example(), count("x", 2), count("y", 1))
	z := on(up("t"), up("z"))
	z.Unique = true
	wantKeys(t, "two fields", z, example(), row(date(1000), null()))
}
