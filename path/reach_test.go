package path_test

import (
	"slices"
	"testing"

	"coffret/api"
	"coffret/path"
)

// TestReach: the chapter's examples, and its words one by one (P4.2).
func TestReach(t *testing.T) {
	ab := doc(of("a", num(1)), of("b", num(2)))
	for _, x := range []struct {
		v    api.Value
		p    string
		want []api.Value
	}{
		{example(), "a b", row(num(1))},
		{example(), "l b", row(num(2), num(3), none())},
		{example(), "l 0 b", row(none(), none(), none(), num(2))},
		{example(), "l 3", row(none(), none(), none(), num(5))},
		{example(), "l 9", row(none(), none(), none())},
		{example(), "x y", row(none())},
		{example(), "a b c", row(none())},
		{example(), "", row(example())},
		{example(), "l", row(example().Doc[1].Value)},
		{num(5), "", row(num(5))},
		{none(), "", row(none())},
		{list(ab, num(1)), "", row(list(ab, num(1)))},
		{doc(), "", row(doc())},
		{doc(), "a", row(none())},
		{doc(of("a", none())), "a", row(none())},
		{doc(of("a", null())), "a", row(null())},
		{doc(of("a", null())), "a b", row(none())},
		{doc(of("a", num(1)), of("a", num(2))), "a", row(num(1))},
		{doc(of("0", num(1)), of("1", list(num(2)))), "0", row(num(1))},
		{doc(of("00", num(1))), "00", row(num(1))},
		{doc(of("a", doc(of("b", doc(of("c", list(num(1)))))))), "a b c", row(list(num(1)))},
		{list(), "a", nil},
		{list(), "0", nil},
		{list(num(1), null(), txt("a")), "a", nil},
		{list(num(1), null(), txt("a")), "1", row(null())},
		{list(num(1), null(), txt("a")), "2", row(txt("a"))},
		{list(num(1), null(), txt("a")), "3", nil},
		{list(num(1)), "0 a", row(none())},
		{list(ab, doc(), ab), "a", row(num(1), none(), num(1))},
		{list(list(ab), ab), "a", row(num(1))},
		{list(list(list(ab))), "a", nil},
		{list(list(ab)), "0 a", row(num(1))},
		{list(list(ab)), "0 0", row(none(), ab)},
		{list(list(list(ab))), "0 0 0 a", row(none(), num(1))},
		{list(list(num(7), num(8)), list(num(9))), "1", row(list(num(9)))},
		{list(list(num(7), num(8)), list(num(9))), "0 1", row(num(8))},
		{list(ab, num(1)), "0", row(none(), ab)},
		{list(ab, num(1)), "1", row(none(), num(1))},
		{list(doc(of("0", num(1))), doc(of("0", num(2)))), "0", row(num(1), num(2), doc(of("0", num(1))))},
		{list(doc(of("a", list())), doc(of("a", list(ab, ab)))), "a b", row(num(2), num(2))},
		{list(doc(of("a", list(num(4), num(5)))), doc(of("a", list(num(6))))), "a 1", row(num(5))},
		{list(doc(of("0", list(doc(of("0", num(3))))))), "0 0", row(num(3), doc(of("0", num(3))), list(doc(of("0", num(3)))))},
		{list(doc(of("0", list(doc(of("0", num(3))))))), "0 0 0", row(none(), num(3), num(3), doc(of("0", num(3))))},
	} {
		wantRows(t, "Reach "+x.p, path.Reach(x.v, parts(x.p)), x.want)
	}
}

// TestReachOfOthers: of any other value missing, once (P4.2).
func TestReachOfOthers(t *testing.T) {
	for _, v := range flat() {
		for _, p := range []string{"a", "0", "a b", "0 0", "x"} {
			wantRows(t, "Reach "+p, path.Reach(v, parts(p)), row(none()))
			wantRows(t, "Reach within", path.Reach(doc(of("f", v)), append([]string{"f"}, parts(p)...)), row(none()))
			wantRows(t, "Reach in a list", path.Reach(list(list(), v), append([]string{"1"}, parts(p)...)), row(none()))
		}
		wantRows(t, "Reach of no parts", path.Reach(v, nil), row(v))
	}
}

// TestPlaces: what is no place leads to no element, whichever the call (Words).
func TestPlaces(t *testing.T) {
	v := many(num(7), 12)
	for _, part := range noPlaces() {
		l := []string{part}
		wantRows(t, "Reach "+part, path.Reach(v, l), nil)
		wantRows(t, "Reach of a document "+part, path.Reach(doc(of(part, num(1))), l), row(num(1)))
		if got, is := path.At(v, l); is || !same(got, none()) {
			t.Errorf("At %q: %v %v", part, got, is)
		}
		if got, is := path.At(doc(of(part, num(1))), l); !is || !same(got, num(1)) {
			t.Errorf("At of a document %q: %v %v", part, got, is)
		}
		if got, e := path.Set(v, l, num(1)); e != api.ErrBlocked || !same(got, none()) {
			t.Errorf("Set %q: %v %v", part, got, e)
		}
		wantSame(t, "Unset "+part, path.Unset(v, l), v)
	}
	for n, part := range []string{"0", "1", "2", "3", "4", "5", "6", "7", "8", "9", "10", "11"} {
		v.List[n] = num(n)
		wantRows(t, "Reach "+part, path.Reach(v, []string{part}), row(num(n)))
	}
	for _, part := range []string{"12", "100000", "999999999"} {
		wantRows(t, "Reach "+part, path.Reach(v, []string{part}), nil)
		if got, is := path.At(v, []string{part}); is || !same(got, none()) {
			t.Errorf("At %q: %v %v", part, got, is)
		}
	}
	long := many(null(), 123457)
	long.List[123456] = txt("last")
	wantRows(t, "Reach 123456", path.Reach(long, []string{"123456"}), row(txt("last")))
}

// TestReachMany: after MaxReach values no more are met (P4.2).
func TestReachMany(t *testing.T) {
	for _, n := range []int{0, 1, api.MaxReach - 1, api.MaxReach, api.MaxReach + 1, 3 * api.MaxReach, 1 << 17} {
		v := many(doc(of("a", num(7)), of("l", list(num(8), num(9)))), n)
		up := min(n, api.MaxReach)
		wantRows(t, "a field", path.Reach(v, []string{"a"}), slices.Repeat(row(num(7)), up))
		wantRows(t, "no field", path.Reach(v, []string{"x"}), slices.Repeat(row(none()), up))
		wantRows(t, "an element", path.Reach(v, []string{"l", "1"}), slices.Repeat(row(num(9)), up))
		wantRows(t, "none", path.Reach(v, []string{"l", "2"}), nil)
		if n > 0 {
			want := append(slices.Repeat(row(none()), n), v.List[0])[:min(n+1, api.MaxReach)]
			wantRows(t, "a place behind all", path.Reach(v, []string{"0"}), want)
		}
	}
	for _, n := range []int{9, 10, 11} {
		within := doc(of("a", many(doc(of("a", num(1))), 100)))
		got := path.Reach(many(within, n), []string{"a", "a"})
		wantRows(t, "lists within lists", got, slices.Repeat(row(num(1)), min(100*n, api.MaxReach)))
	}
	rising := list()
	for i := range 2 * api.MaxReach {
		rising.List = append(rising.List, doc(of("n", num(i))))
	}
	for i, x := range path.Reach(rising, []string{"n"}) {
		wantSame(t, "the first ones", x, num(i))
	}
}

// tenDeep is a value in which ten parts of that name lead to v.
func tenDeep(v api.Value, name string) (api.Value, []string) {
	for range api.MaxParts {
		v = doc(of(name, v))
	}
	return v, slices.Repeat([]string{name}, api.MaxParts)
}

// TestManyParts: MaxParts parts lead somewhere; more lead nowhere (Words).
func TestManyParts(t *testing.T) {
	v, l := tenDeep(doc(of("a", num(7))), "a")
	end := doc(of("a", num(7)))
	more := append(slices.Clone(l), "a")
	wantRows(t, "Reach", path.Reach(v, l), row(end))
	wantSame(t, "Pick", path.Pick(v, l), end)
	if got, is := path.At(v, l); !is || !same(got, end) {
		t.Error("At", got, is)
	}
	want, _ := tenDeep(num(1), "a")
	if got, e := path.Set(v, l, num(1)); e != api.OK || !same(got, want) {
		t.Error("Set", got, e)
	}
	wantSame(t, "Unset", path.Unset(v, l), nest(doc(), 9, true))
	for _, l := range [][]string{more, slices.Repeat([]string{"0"}, 11), slices.Repeat([]string{"x"}, 1<<16)} {
		for _, v := range append(flat(), v, list(v), list(), doc()) {
			wantRows(t, "Reach of more", path.Reach(v, l), nil)
			wantSame(t, "Pick of more", path.Pick(v, l), none())
			if got, is := path.At(v, l); is || !same(got, none()) {
				t.Error("At of more", got, is)
			}
			if got, e := path.Set(v, l, num(1)); e != api.ErrPath || !same(got, none()) {
				t.Error("Set of more", got, e)
			}
			wantSame(t, "Unset of more", path.Unset(v, l), v)
		}
	}
}

func TestPick(t *testing.T) {
	ab := doc(of("a", num(1)), of("b", num(2)))
	for _, x := range []struct {
		v    api.Value
		p    string
		want api.Value
	}{
		{example(), "l b", list(num(2), num(3))},
		{example(), "a b", num(1)},
		{example(), "l 0", list()},
		{example(), "x", none()},
		{example(), "", example()},
		{example(), "l", example().Doc[1].Value},
		{example(), "a", doc(of("b", num(1)))},
		{example(), "a b c", none()},
		{example(), "l b x", list()},
		{none(), "", none()},
		{list(num(1), none()), "", list(num(1), none())},
		{doc(of("a", null())), "a", null()},
		{doc(of("a", num(1)), of("a", num(2))), "a", num(1)},
		{doc(of("0", num(1))), "0", num(1)},
		{list(), "a", list()},
		{list(num(1), txt("a"), null(), none()), "a", list()},
		{list(num(1), num(2)), "0", list()},
		{list(ab, num(3), ab, doc(of("b", num(9)))), "a", list(num(1), num(1))},
		{list(list(ab, list(ab)), ab), "a", list(list(num(1), list(num(1))), num(1))},
		{list(list(), list(num(1)), list(list())), "a", list(list(), list(), list(list()))},
		{list(doc(of("a", list())), doc(of("a", num(1)))), "a b", list(list())},
		{list(doc(of("a", list(ab, num(7), ab))), doc(of("a", ab))), "a b", list(list(num(2), num(2)), num(2))},
		{list(doc(of("a", null())), doc(of("a", none()))), "a", list(null())},
		{list(doc(of("a", api.Value{Int: 3}))), "a", list(api.Value{Int: 3})},
		{list(doc(of("a", api.Value{Text: "x"}))), "a", list(api.Value{Text: "x"})},
		{list(doc(of("a", api.Value{List: row(null())}))), "a", list(api.Value{List: row(null())})},
		{list(doc(of("a", api.Value{Doc: ab.Doc}))), "a", list(api.Value{Doc: ab.Doc})},
		{list(doc(of("0", num(4))), list(num(5))), "0", list(num(4), list())},
	} {
		wantSame(t, "Pick "+x.p, path.Pick(x.v, parts(x.p)), x.want)
	}
	for _, v := range flat() {
		wantSame(t, "Pick of no parts", path.Pick(v, nil), v)
		wantSame(t, "Pick of what is flat", path.Pick(v, []string{"a"}), none())
		wantSame(t, "Pick of what is flat", path.Pick(v, []string{"0"}), none())
		wantSame(t, "Pick in a list", path.Pick(list(v), []string{"0"}), list())
	}
	long := many(ab, 3*api.MaxReach)
	wantSame(t, "Pick of many", path.Pick(long, []string{"b"}), many(num(2), 3*api.MaxReach))
}

func TestAt(t *testing.T) {
	for _, x := range []struct {
		v    api.Value
		p    string
		want api.Value
		is   bool
	}{
		{example(), "l 0 b", num(2), true},
		{example(), "l b", none(), false},
		{example(), "", example(), true},
		{example(), "a", doc(of("b", num(1))), true},
		{example(), "a b", num(1), true},
		{example(), "a b c", none(), false},
		{example(), "a 0", none(), false},
		{example(), "x", none(), false},
		{example(), "x y", none(), false},
		{example(), "l 3", num(5), true},
		{example(), "l 4", none(), false},
		{example(), "l 3 0", none(), false},
		{example(), "l 2 c", num(4), true},
		{example(), "l 2 b", none(), false},
		{none(), "", none(), true},
		{doc(of("a", none())), "a", none(), true},
		{doc(of("a", none())), "a b", none(), false},
		{doc(of("a", num(1)), of("a", num(2))), "a", num(1), true},
		{doc(of("a", num(1)), of("a", doc(of("b", num(2))))), "a b", none(), false},
		{doc(of("0", doc(of("1", num(3))))), "0 1", num(3), true},
		{list(list(num(1), list(num(2)))), "0 1 0", num(2), true},
		{list(), "0", none(), false},
	} {
		if got, is := path.At(x.v, parts(x.p)); is != x.is || !same(got, x.want) {
			t.Errorf("At %s of %v: %v %v", x.p, x.v, got, is)
		}
	}
	for _, v := range flat() {
		if got, is := path.At(v, nil); !is || !same(got, v) {
			t.Errorf("At of no parts: %v %v", got, is)
		}
		for _, p := range []string{"a", "0", ""} {
			if got, is := path.At(v, []string{p}); is || !same(got, none()) {
				t.Errorf("At of what is flat: %v %v", got, is)
			}
		}
	}
}
