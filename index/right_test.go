package index_test

import (
	"math"
	"strings"
	"testing"

	"coffret/api"
	"coffret/index"
)

func wantRight(t *testing.T, what string, x api.Index, want api.Errno) {
	t.Helper()
	if e := index.Right(x); e != want {
		t.Errorf("%q: %v, want %v", what, e, want)
	}
	if want != api.OK {
		wantError(t, what, x, doc(of("a", date(5))), want)
		wantNever(t, what, x, doc(of("a", date(5))))
	}
}

// TestRightNames: a name is a path's part (P10.1).
func TestRightNames(t *testing.T) {
	for _, name := range []string{"i", "0", "00", "a$", " ", "_id", "é", "\x01", "a b", strings.Repeat("n", api.MaxName), strings.Repeat("é", api.MaxName/2)} {
		x := on(up("a"))
		x.Name = name
		wantRight(t, name, x, api.OK)
	}
	for _, name := range []string{"", ".", "a.b", "a.", ".a", "$", "$a", "\x00", "a\x00", "\xff", "a\xc3", strings.Repeat("n", api.MaxName+1), strings.Repeat("a.", 1<<20)} {
		for _, x := range []api.Index{on(up("a")), text("a"), expiring(up("a"), 5)} {
			x.Name = name
			wantRight(t, name, x, api.ErrIndexForm)
		}
	}
}

// TestRightPaths: each field has a path, and no two the same one (P10.1).
func TestRightPaths(t *testing.T) {
	long := strings.Repeat("p", api.MaxName)
	for _, p := range []string{"a", "a.b", "0", "l.0.x", "a$", "_id", "a.b.c.d.e.f.g.h.i.j", long, "a." + long} {
		wantRight(t, p, on(up(p)), api.OK)
		wantRight(t, p, on(down(p)), api.OK)
		wantRight(t, p, on(up("z"), down("y"), up("x"), down(p)), api.OK)
		wantRight(t, p, text("z", p), api.OK)
		wantRight(t, p, expiring(up(p), 5), api.OK)
	}
	for _, p := range []string{"", ".", "a.", ".a", "a..b", "$", "$a", "a.$", "a.$b", "\x00", "a.\xff", "a.b.c.d.e.f.g.h.i.j.k", long + "p", "a." + long + "p"} {
		wantRight(t, p, on(up(p)), api.ErrIndexForm)
		wantRight(t, p, on(up(p), up("z")), api.ErrIndexForm)
		wantRight(t, p, on(up("z"), down("y"), up("x"), down(p)), api.ErrIndexForm)
		wantRight(t, p, text("z", p), api.ErrIndexForm)
		wantRight(t, p, expiring(up(p), 5), api.ErrIndexForm)
	}
	for _, l := range [][]api.IndexField{{up("a"), up("a.b")}, {up("a.b"), up("a.c"), up("a")}, {up("a"), up("A")}, {up("a.0"), up("a.00"), up("a")}, {up("é"), up("e\u0301")}} {
		wantRight(t, "near to one another", on(l...), api.OK)
	}
	for _, l := range [][]api.IndexField{{up("a"), up("a")}, {up("a"), down("a")}, {down("a.b"), down("a.b")}, {up("a"), up("b"), up("a")}, {up("b"), up("a"), up("a")}, {up("a"), up("b"), up("c"), up("a")}, {up("c"), up("a"), up("b"), down("a")}, {up("a"), up("a"), up("a"), up("a")}} {
		wantRight(t, "one twice", on(l...), api.ErrIndexForm)
	}
}

// TestRightCounts: 1 to MaxFields fields (P10.1).
func TestRightCounts(t *testing.T) {
	var l []api.IndexField
	for i, p := range []string{"a", "b", "c", "d", "e", "f"} {
		want := api.OK
		if i < 1 || i > api.MaxFields {
			want = api.ErrIndexForm
		}
		wantRight(t, "fields", on(l...), want)
		x := on(l...)
		x.Text = true
		wantRight(t, "fields of a Text one", x, want)
		l = append(l, up(p))
	}
	wantRight(t, "an empty list", on([]api.IndexField{}...), api.ErrIndexForm)
	wantRight(t, "nothing at all", api.Index{}, api.ErrIndexForm)
	wantRight(t, "very many", on(make([]api.IndexField, 1<<16)...), api.ErrIndexForm)
}

// TestRightExpire: -1, or a time of one field that is not Text (P10.1).
func TestRightExpire(t *testing.T) {
	for _, seconds := range []int{0, 1, 60, 1<<31 - 2, 1<<31 - 1} {
		for _, f := range []api.IndexField{up("a"), down("a.b")} {
			x := expiring(f, seconds)
			wantRight(t, "one field", x, api.OK)
			x.Unique = true
			wantRight(t, "a unique one", x, api.OK)
			x.Unique, x.Text, x.Fields[0].Desc = false, true, false
			wantRight(t, "a Text one", x, api.ErrIndexForm)
			x = on(f, up("z"))
			x.Expire = seconds
			wantRight(t, "two fields", x, api.ErrIndexForm)
			x.Fields = append(x.Fields, up("y"), up("x"))
			wantRight(t, "four fields", x, api.ErrIndexForm)
		}
	}
	for _, seconds := range []int{-2, -1000, math.MinInt32, math.MinInt, 1 << 31, 1<<31 + 1, 1 << 32, math.MaxInt} {
		wantRight(t, "no time", expiring(up("a"), seconds), api.ErrIndexForm)
		x := text("a")
		x.Expire = seconds
		wantRight(t, "no time of a Text one", x, api.ErrIndexForm)
	}
}

// TestRightText: a Text one is not Unique, and none of its fields falls (P10.1).
func TestRightText(t *testing.T) {
	wantRight(t, "four fields", text("a", "b", "c", "d"), api.OK)
	for i, p := range []string{"a", "b", "c", "d"} {
		x := text("a", "b", "c", "d")
		x.Fields[i] = down(p)
		wantRight(t, "one falls", x, api.ErrIndexForm)
		x.Text = false
		wantRight(t, "one falls, no Text one", x, api.OK)
		x.Unique = true
		wantRight(t, "one falls, a unique one", x, api.OK)
	}
	x := text("a")
	x.Unique = true
	wantRight(t, "both", x, api.ErrIndexForm)
	x.Text = false
	wantRight(t, "unique alone", x, api.OK)
}
