package path_test

import (
	"slices"
	"strconv"
	"testing"

	"coffret/api"
	"coffret/path"
)

func TestSet(t *testing.T) {
	ab := doc(of("a", num(1)), of("b", num(2)))
	for _, x := range []struct {
		v    api.Value
		p    string
		x    api.Value
		want api.Value
		e    api.Errno
	}{
		{example(), "a c", num(7), doc(of("a", doc(of("b", num(1)), of("c", num(7)))), example().Doc[1]), api.OK},
		{doc(), "a b", num(1), doc(of("a", doc(of("b", num(1))))), api.OK},
		{list(num(1)), "3", num(2), list(num(1), null(), null(), num(2)), api.OK},
		{list(num(1)), "x", num(2), none(), api.ErrBlocked},
		{list(num(1)), "101", num(2), none(), api.ErrPad},
		{doc(of("a", num(1))), "a b", num(2), none(), api.ErrBlocked},
		{doc(), "", num(1), none(), api.ErrPath},
		{list(), "", num(1), none(), api.ErrPath},
		{none(), "", num(1), none(), api.ErrPath},
		{doc(), "a", num(1), doc(of("a", num(1))), api.OK},
		{ab, "a", txt("x"), doc(of("a", txt("x")), of("b", num(2))), api.OK},
		{ab, "b", doc(), doc(of("a", num(1)), of("b", doc())), api.OK},
		{ab, "c", list(num(3)), doc(of("a", num(1)), of("b", num(2)), of("c", list(num(3)))), api.OK},
		{ab, "a", none(), doc(of("a", none()), of("b", num(2))), api.OK},
		{ab, "c", none(), doc(of("a", num(1)), of("b", num(2)), of("c", none())), api.OK},
		{ab, "0", ab, doc(of("a", num(1)), of("b", num(2)), of("0", ab)), api.OK},
		{doc(), "0 1 x", num(1), doc(of("0", doc(of("1", doc(of("x", num(1))))))), api.OK},
		{doc(of("a", num(1)), of("a", num(2))), "a", num(3), doc(of("a", num(3)), of("a", num(2))), api.OK},
		{doc(of("a", doc()), of("b", num(1)), of("a", num(2))), "a x", num(3), doc(of("a", doc(of("x", num(3)))), of("b", num(1)), of("a", num(2))), api.OK},
		{doc(of("a", null())), "a b", num(2), none(), api.ErrBlocked},
		{doc(of("a", none())), "a b", num(2), none(), api.ErrBlocked},
		{doc(of("a", list())), "a b c", num(2), none(), api.ErrBlocked},
		{list(), "0", num(1), list(num(1)), api.OK},
		{list(num(5)), "0", num(1), list(num(1)), api.OK},
		{list(num(5), num(6)), "1", list(), list(num(5), list()), api.OK},
		{list(num(5), num(6)), "2", num(7), list(num(5), num(6), num(7)), api.OK},
		{list(num(5)), "0 a", num(1), none(), api.ErrBlocked},
		{list(num(5)), "0 0", num(1), none(), api.ErrBlocked},
		{list(null()), "0 a", num(1), none(), api.ErrBlocked},
		{list(ab, ab), "1 b", num(9), list(ab, doc(of("a", num(1)), of("b", num(9)))), api.OK},
		{list(num(5)), "2 a b", num(1), list(num(5), null(), doc(of("a", doc(of("b", num(1)))))), api.OK},
		{list(num(5)), "1 0", num(1), list(num(5), doc(of("0", num(1)))), api.OK},
		{list(list(num(5))), "0 2", num(1), list(list(num(5), null(), num(1))), api.OK},
		{list(list()), "0 x", num(1), none(), api.ErrBlocked},
		{list(list()), "0 999999999 x", num(1), none(), api.ErrPad},
		{list(), "500 x x", num(1), none(), api.ErrPad},
		{doc(of("l", list())), "l 100", num(1), none(), api.ErrPad},
		{doc(of("l", list())), "m 100", num(1), doc(of("l", list()), of("m", doc(of("100", num(1))))), api.OK},
	} {
		got, e := path.Set(x.v, parts(x.p), x.x)
		if e != x.e {
			t.Errorf("Set %s of %v: %v, want %v", x.p, x.v, e, x.e)
		}
		wantSame(t, "Set "+x.p, got, x.want)
	}
	if got, e := path.Set(doc(), []string{"", "$", "\xff.\x00"}, num(1)); e != api.OK || !same(got, doc(of("", doc(of("$", doc(of("\xff.\x00", num(1)))))))) {
		t.Error("parts that are no names:", got, e)
	}
}

// TestSetOfOthers: of any other value ErrBlocked, whatever the parts (P4.5).
func TestSetOfOthers(t *testing.T) {
	for _, v := range flat() {
		for _, l := range [][]string{{"a"}, {"0"}, {"a", "b"}, {"0", "0"}, {"x"}} {
			for _, w := range []struct {
				v api.Value
				l []string
			}{{v, l}, {doc(of("f", v)), append([]string{"f"}, l...)}, {list(num(1), v), append([]string{"1"}, l...)}} {
				if got, e := path.Set(w.v, w.l, num(1)); e != api.ErrBlocked || !same(got, none()) {
					t.Errorf("Set %q of %v: %v %v", w.l, w.v, got, e)
				}
			}
		}
		if got, e := path.Set(v, nil, num(1)); e != api.ErrPath || !same(got, none()) {
			t.Error("Set of no parts", got, e)
		}
	}
}

// TestSetPads: up to MaxPad elements are lacking, the one that is set with them (P4.5).
func TestSetPads(t *testing.T) {
	for _, long := range []int{0, 1, 7, 99, 100, 101, 5000} {
		v := many(num(7), long)
		for _, lacking := range []int{1, 2, 50, api.MaxPad - 1, api.MaxPad, api.MaxPad + 1, api.MaxPad + 2, 100000} {
			part := strconv.Itoa(long + lacking - 1)
			got, e := path.Set(v, []string{part}, txt("x"))
			within, f := path.Set(v, []string{part, "b", "c"}, txt("x"))
			if lacking > api.MaxPad {
				if e != api.ErrPad || f != api.ErrPad || !same(got, none()) || !same(within, none()) {
					t.Errorf("%d lack of %d: %v %v", lacking, long, e, f)
				}
				continue
			}
			want := append(slices.Clone(v.List), many(null(), lacking-1).List...)
			if e != api.OK || f != api.OK {
				t.Errorf("%d lack of %d: %v %v", lacking, long, e, f)
			}
			wantSame(t, "padded", got, list(append(want, txt("x"))...))
			wantSame(t, "padded, within", within, list(append(want, doc(of("b", doc(of("c", txt("x"))))))...))
		}
	}
}

func TestUnset(t *testing.T) {
	ab := doc(of("a", num(1)), of("b", num(2)))
	for _, x := range []struct {
		v    api.Value
		p    string
		want api.Value
	}{
		{example(), "a b", doc(of("a", doc()), example().Doc[1])},
		{list(num(1)), "0", list(null())},
		{example(), "x", example()},
		{example(), "", example()},
		{example(), "a", doc(example().Doc[1])},
		{example(), "l", doc(example().Doc[0])},
		{example(), "l b", example()},
		{example(), "a b c", example()},
		{example(), "x y", example()},
		{example(), "l 4", example()},
		{example(), "l 3 a", example()},
		{example(), "l 2 b", example()},
		{ab, "a", doc(of("b", num(2)))},
		{ab, "b", doc(of("a", num(1)))},
		{doc(), "a", doc()},
		{doc(of("a", none())), "a", doc()},
		{doc(of("a", num(1)), of("b", num(2)), of("a", num(3))), "a", doc(of("b", num(2)))},
		{doc(of("a", ab), of("a", ab)), "a b", doc(of("a", doc(of("a", num(1)))), of("a", ab))},
		{doc(of("a", num(1)), of("a", ab)), "a b", doc(of("a", num(1)), of("a", ab))},
		{doc(of("0", num(1)), of("1", num(2))), "0", doc(of("1", num(2)))},
		{list(), "0", list()},
		{list(num(1), num(2), num(3)), "1", list(num(1), null(), num(3))},
		{list(num(1), num(2), num(3)), "2", list(num(1), num(2), null())},
		{list(num(1), num(2), num(3)), "3", list(num(1), num(2), num(3))},
		{list(ab, ab), "1 a", list(ab, doc(of("b", num(2))))},
		{list(ab, ab), "a", list(ab, ab)},
		{list(list(num(1), num(2))), "0 0", list(list(null(), num(2)))},
		{list(null()), "0", list(null())},
	} {
		wantSame(t, "Unset "+x.p, path.Unset(x.v, parts(x.p)), x.want)
	}
	for _, v := range flat() {
		for _, p := range []string{"", "a", "0", "a a", "0 0"} {
			wantSame(t, "Unset of what is flat", path.Unset(v, parts(p)), v)
		}
	}
}
