package index_test

import (
	"slices"
	"strings"
	"testing"

	"coffret/api"
)

// wrong are documents that may not be, and why.
func wrong() map[api.Errno][]api.Value {
	big := doc(of("a", txt(strings.Repeat("x", api.MaxDoc-12))))
	return map[api.Errno][]api.Value{
		api.ErrBig:       {big, doc(of("z", num(1)), of("y", big.Doc[0].Value))},
		api.ErrValueKind: {doc(of("z", api.Value{})), doc(of("a", num(1)), of("z", txt("\xff"))), {Kind: api.KindDoc, Int: 1}, {Kind: api.KindDoc, Text: "x"}, {Kind: api.KindDoc, List: row(num(1))}, doc(of("a", list(api.Value{Kind: 12})))},
		api.ErrValueName: {doc(of("", num(1))), doc(of("a", num(1)), of("a", num(1))), doc(of("z", doc(of("\x00", num(1)))))},
		api.ErrValueDeep: {nest(num(1), api.MaxDepth+1, true), doc(of("z", nest(num(1), api.MaxDepth, false)))},
	}
}

// indexes are of all shapes.
func indexes() []api.Index {
	unique := on(down("a.b"))
	unique.Unique = true
	return []api.Index{on(up("a")), unique, on(up("a"), down("b"), up("c"), up("d")), text("a"), text("b", "a"), expiring(up("a"), 5)}
}

// TestKeysOfNoDocument: ErrArg of what is no document, else what is wrong with the value (P10.2).
func TestKeysOfNoDocument(t *testing.T) {
	for _, x := range indexes() {
		for _, v := range append(kinds(), api.Value{}, list(doc(of("a", num(1)))), api.Value{Kind: 12}, api.Value{Kind: -5}, txt("\xff"), txt(strings.Repeat("x", api.MaxDoc)), nest(num(1), 30, false), api.Value{Kind: api.KindInt, Doc: doc(of("a", num(1))).Doc}) {
			if v.Kind != api.KindDoc {
				wantError(t, "no document", x, v, api.ErrArg)
			}
		}
		for e, l := range wrong() {
			for _, v := range l {
				wantError(t, "a wrong one", x, v, e)
			}
		}
	}
	wantKeys(t, "a full one", text("a"), doc(of("a", txt(strings.Repeat("x", api.MaxDoc-13)))))
	wantKeys(t, "a deep one", on(up("a.a.b")), nest(num(1), api.MaxDepth, true), row(null()))
}

// TestKeysForm: an index that may not be comes ahead of all else (P10.2).
func TestKeysForm(t *testing.T) {
	for _, x := range []api.Index{{}, on(), on(up("a"), up("a")), on(up("a.")), text(), expiring(up("a"), -2), on(up("a"), up("b"), up("c"), up("d"), up("e"))} {
		wantError(t, "a document", x, example(), api.ErrIndexForm)
		wantError(t, "no document", x, num(5), api.ErrIndexForm)
		wantError(t, "many and long", x, doc(of("a", list(numbers(300)...)), of("b", txt(strings.Repeat("k", 2000)))), api.ErrIndexForm)
		for _, l := range wrong() {
			wantError(t, "a wrong one", x, l[0], api.ErrIndexForm)
		}
	}
}

// spread is a list of so many documents, each with another number at v.
func spread(n int) api.Value {
	l := list()
	for i := range n {
		l.List = append(l.List, doc(of("v", num(i))))
	}
	return l
}

// tiny are so many unlike values with keys so short that the list of 199 still has one.
func tiny(n int) []api.Value {
	var l []api.Value
	for i := range n {
		if i < 127 {
			l = append(l, txt(string(rune(i+1))))
		} else {
			l = append(l, api.Value{Kind: api.KindBytes, Text: string([]byte{byte(i - 126)})})
		}
	}
	return l
}

// TestKeysMany: MaxKeys keys at most (P10.2).
func TestKeysMany(t *testing.T) {
	for _, f := range []api.IndexField{up("a.v"), down("a.v")} {
		for _, x := range []api.Index{on(f), on(up("z"), f), on(f, down("z"), up("y"), up("x"))} {
			for _, n := range []int{1, 2, 100, api.MaxKeys - 1, api.MaxKeys} {
				wantMany(t, "at most", x, doc(of("a", spread(n))), n)
			}
			for _, n := range []int{api.MaxKeys + 1, api.MaxKeys + 2, api.MaxReach, 2000} {
				wantError(t, "more", x, doc(of("a", spread(n))), api.ErrIndexMany)
			}
		}
	}
	wantMany(t, "elements and their list", on(up("a")), doc(of("a", list(tiny(api.MaxKeys-1)...))), api.MaxKeys)
	wantError(t, "one element more", on(up("a")), doc(of("a", list(tiny(api.MaxKeys)...))), api.ErrIndexMany)
}

// TestKeysMultiplied: there are as many as the unlike values, multiplied (P10.2).
func TestKeysMultiplied(t *testing.T) {
	of4 := func(a, b, c, e int) api.Value {
		return doc(of("a", spread(a)), of("b", spread(b)), of("c", spread(c)), of("d", spread(e)))
	}
	two, four := on(up("a.v"), down("b.v")), on(up("a.v"), up("b.v"), down("c.v"), up("d.v"))
	wantMany(t, "two", two, of4(10, 20, 9, 9), 200)
	wantError(t, "two", two, of4(3, 67, 1, 1), api.ErrIndexMany)
	wantError(t, "two", two, of4(67, 3, 1, 1), api.ErrIndexMany)
	wantMany(t, "four", four, of4(2, 4, 5, 5), 200)
	wantMany(t, "four, one alone in its place", four, of4(8, 1, 5, 5), 200)
	wantError(t, "four", four, of4(3, 3, 3, 8), api.ErrIndexMany)
	wantError(t, "four of many", four, of4(600, 600, 600, 600), api.ErrIndexMany)
	alike := func(n int) api.Value {
		return list(slices.Repeat(spread(n).List, 9)...)
	}
	wantMany(t, "alike ones", two, doc(of("a", alike(3)), of("b", alike(66))), 198)
	wantError(t, "alike ones", two, doc(of("a", alike(3)), of("b", alike(67))), api.ErrIndexMany)
	wantMany(t, "alike elements", on(up("a"), up("b.v")), doc(of("a", list(slices.Repeat(tiny(3), 50)...)), of("b", alike(50))), 200)
}

// TestKeysManyWords: MaxKeys words at most, of all texts together (P10.2).
func TestKeysManyWords(t *testing.T) {
	wantMany(t, "one text", text("a"), doc(of("a", numbered("w", api.MaxKeys))), api.MaxKeys)
	wantMany(t, "a text that goes on", text("a"), doc(of("a", numbered("w", api.MaxWords+1))), api.MaxKeys)
	wantMany(t, "two paths", text("a", "b"), doc(of("a", numbered("w", 150)), of("b", numbered("v", 50))), api.MaxKeys)
	wantError(t, "two paths", text("a", "b"), doc(of("a", numbered("w", 150)), of("b", numbered("v", 51))), api.ErrIndexMany)
	wantMany(t, "the first of two paths", text("a"), doc(of("a", numbered("w", 150)), of("b", numbered("v", 51))), 150)
	wantMany(t, "the same words", text("a", "b"), doc(of("a", numbered("w", api.MaxKeys)), of("b", list(numbered("w", 200), numbered("W", 100)))), api.MaxKeys)
	wantError(t, "one more", text("a"), doc(of("a", list(numbered("w", api.MaxKeys), txt("x")))), api.ErrIndexMany)
}

// TestKeysLong: MaxKey bytes at most, in each key (P10.2).
func TestKeysLong(t *testing.T) {
	k := func(n int) api.Value { return txt(strings.Repeat("k", n)) } // its key has three bytes more
	for _, f := range []api.IndexField{up("a"), down("a")} {
		wantKeys(t, "at the edge", on(f), doc(of("a", k(api.MaxKey-3))), row(k(api.MaxKey-3)))
		wantError(t, "past it", on(f), doc(of("a", k(api.MaxKey-2))), api.ErrKeyLong)
		wantKeys(t, "noughts at the edge", on(f), doc(of("a", txt(strings.Repeat("\x00", 498)+"k"))), row(txt(strings.Repeat("\x00", 498)+"k")))
		wantError(t, "noughts past it", on(f), doc(of("a", txt(strings.Repeat("\x00", 499)))), api.ErrKeyLong)
		wantError(t, "far past it", on(f), doc(of("a", k(60000))), api.ErrKeyLong)
		wantError(t, "one of a list's", on(f), doc(of("a", list(num(1), k(api.MaxKey), num(2)))), api.ErrKeyLong)
		wantError(t, "the list itself", on(f), doc(of("a", list(k(500), k(501)))), api.ErrKeyLong)
		wantKeys(t, "elsewhere", on(f), doc(of("a", num(1)), of("b", k(60000))), row(num(1)))
	}
	two := on(up("a"), down("b"))
	wantKeys(t, "two at the edge", two, doc(of("a", k(500)), of("b", k(494))), row(k(500), k(494)))
	wantError(t, "two past it", two, doc(of("a", k(500)), of("b", k(495))), api.ErrKeyLong)
	wantError(t, "the first one alone", two, doc(of("a", k(998))), api.ErrKeyLong)
	wantError(t, "the second one alone", two, doc(of("b", k(998))), api.ErrKeyLong)
	wantKeys(t, "beside null", two, doc(of("b", k(996))), row(null(), k(996)))
	wantError(t, "beside null past it", two, doc(of("b", k(997))), api.ErrKeyLong)
	four := on(up("a"), up("b"), down("c"), up("d"))
	wantKeys(t, "four at the edge", four, doc(of("a", k(247)), of("b", k(247)), of("c", k(247)), of("d", k(247))), row(k(247), k(247), k(247), k(247)))
	wantError(t, "four past it", four, doc(of("a", k(247)), of("b", k(247)), of("c", k(248)), of("d", k(247))), api.ErrKeyLong)
	wantError(t, "one choice of several", two, doc(of("a", list(num(1), k(480))), of("b", list(num(1), k(500)))), api.ErrKeyLong)
	wantMany(t, "long texts as words", text("a"), doc(of("a", txt(strings.Repeat("k l ", 1000)))), 2)
}

// TestKeysManyAheadOfLong: too many keys are told ahead of one that is too long (P10.2).
func TestKeysManyAheadOfLong(t *testing.T) {
	long := txt(strings.Repeat("k", 2000))
	wantError(t, "one list", on(up("a")), doc(of("a", list(append(numbers(200), long)...))), api.ErrIndexMany)
	wantError(t, "long and many", on(up("a"), up("b")), doc(of("a", long), of("b", list(numbers(200)...))), api.ErrIndexMany)
	wantError(t, "many and long", on(up("b"), up("a")), doc(of("a", long), of("b", list(numbers(200)...))), api.ErrIndexMany)
	wantError(t, "both together", on(up("a"), up("b")), doc(of("a", list(long, num(1))), of("b", list(numbers(66)...))), api.ErrIndexMany)
	wantError(t, "not as many", on(up("a"), up("b")), doc(of("a", list(long, num(1))), of("b", list(numbers(65)...))), api.ErrKeyLong)
}

// TestKeysReach: of the values to which a path leads the first MaxReach ones are shown, and all elements of those (P10.2).
func TestKeysReach(t *testing.T) {
	first := slices.Repeat(row(doc(of("a", num(1)))), api.MaxReach-1)
	wantKeys(t, "the last one", on(up("l.a")), doc(of("l", list(append(first, doc(of("a", num(2))))...))), each(num(1), num(2))...)
	wantKeys(t, "one more", on(up("l.a")), doc(of("l", list(append(first, doc(), doc(of("a", num(2))))...))), each(null(), num(1))...)
	wantKeys(t, "a list at the end", on(up("l.a")), doc(of("l", list(append(first, doc(of("a", list(num(3), num(4)))), doc(of("a", num(2))))...))), each(num(1), num(3), num(4), list(num(3), num(4)))...)
	long := doc(of("l", list(append(slices.Repeat(row(null()), 5000), num(7))...)))
	wantError(t, "a long list's elements", on(up("l"), up("z")), long, api.ErrKeyLong)
	wantKeys(t, "far behind in a list", on(up("l.5000")), long, row(num(7)))
	wantKeys(t, "texts far behind in a list", text("l"), doc(of("l", list(append(slices.Repeat(row(null()), 5000), txt("x"))...))), count("x", 1))
}
