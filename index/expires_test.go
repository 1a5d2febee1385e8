package index_test

import (
	"math"
	"slices"
	"testing"

	"coffret/api"
	"coffret/index"
)

// TestExpires: the earliest date that the path shows, and so many seconds (P10.3).
func TestExpires(t *testing.T) {
	d := example()
	wantTime(t, "the example", expiring(up("t"), 60), d, 61000)
	wantTime(t, "at once", expiring(up("t"), 0), d, 1000)
	wantTime(t, "a second", expiring(up("t"), 1), d, 2000)
	wantTime(t, "falling", expiring(down("t"), 60), d, 61000)
	x := expiring(up("t"), 60)
	x.Name, x.Unique = "other", true
	wantTime(t, "a unique one", x, d, 61000)
	for _, y := range []struct {
		what, path string
		v          api.Value
		want       int
	}{
		{"below 0", "t", date(-5000), 55000},
		{"of a list", "t", list(date(9000), date(7000), date(8000)), 67000},
		{"the first one of a list", "t", list(date(7000), date(9000)), 67000},
		{"the last one of a list", "t", list(date(9000), date(7000)), 67000},
		{"below 0 of a list", "t", list(date(9), date(0), date(-9)), 59991},
		{"of all kinds", "t", list(kinds()...), 60009},
		{"a list's place", "t.1", list(date(1), date(5), date(3)), 60005},
		{"of documents", "t.u", list(doc(of("u", date(9000))), doc(), doc(of("u", num(1))), doc(of("u", date(8000)))), 68000},
		{"of documents' lists", "t.u", list(doc(of("u", date(9000))), doc(of("u", list(txt("x"), date(8000))))), 68000},
		{"a list in a list", "t.0", list(list(date(4000), date(3000)), date(1)), 63000},
	} {
		wantTime(t, y.what, expiring(up(y.path), 60), doc(of("s", date(-1e15)), of("t", y.v), of("u", date(-1e15))), y.want)
	}
}

// TestExpiresNever: no date, or no time (P10.3).
func TestExpiresNever(t *testing.T) {
	d := doc(of("s", date(1)), of("t", date(1000)), of("u", date(1)))
	wantNever(t, "-1", on(up("t")), d)
	unique := on(down("t"))
	unique.Unique = true
	wantNever(t, "-1, a unique one", unique, d)
	wantNever(t, "-1, two fields", on(up("t"), up("s")), d)
	wantNever(t, "-1, a Text one", text("t"), d)
	for _, x := range []api.Index{{}, {Fields: []api.IndexField{up("t")}}, {Name: "i"}, {Name: "a.b", Fields: []api.IndexField{up("t")}}, expiring(up("t"), -2), expiring(up("t"), 1<<31), expiring(up("t"), math.MinInt), expiring(up("$t"), 5), {Name: "i", Fields: []api.IndexField{up("t"), up("s")}, Expire: 5}, {Name: "i", Fields: []api.IndexField{up("t")}, Text: true, Expire: 5}} {
		wantNever(t, "it may not be", x, d)
	}
	for _, v := range kinds() {
		if v.Kind != api.KindDate {
			wantNever(t, "another kind", expiring(up("t"), 5), doc(of("s", date(1)), of("t", v)))
		}
	}
	for _, v := range []api.Value{list(), list(num(1), null()), list(list(date(1))), doc(of("t", date(1))), list(doc(of("t", date(1)))), {}, txt("1000"), {Kind: api.KindInt, List: row(date(1))}} {
		wantNever(t, "no date", expiring(up("t"), 5), doc(of("t", v), of("u", date(1))))
	}
	for _, p := range []string{"z", "t.t", "t.0", "s.t"} {
		wantNever(t, p, expiring(up(p), 5), d)
	}
	wantNever(t, "no fields", expiring(up("t"), 5), doc())
}

// TestExpiresBeyond: a time that leaves 64 bits is none (P10.3).
func TestExpiresBeyond(t *testing.T) {
	for _, seconds := range []int{0, 1, 60, 1<<31 - 1} {
		wait := seconds * 1000
		x := expiring(up("t"), seconds)
		for _, n := range []int{math.MinInt, math.MinInt + 1, -1, 0, 1 << 40, math.MaxInt - wait - 1, math.MaxInt - wait} {
			wantTime(t, "within", x, doc(of("t", date(n))), n+wait)
			wantTime(t, "a later one beyond", x, doc(of("t", list(date(math.MaxInt), date(n)))), n+wait)
		}
		if seconds == 0 {
			continue
		}
		for _, n := range []int{math.MaxInt - wait + 1, math.MaxInt - 1, math.MaxInt} {
			wantNever(t, "beyond", x, doc(of("t", date(n))))
			wantNever(t, "both beyond", x, doc(of("t", list(date(n), date(math.MaxInt)))))
		}
	}
}

// TestExpiresReach: of the values to which a path leads the first MaxReach ones are shown (P10.3).
func TestExpiresReach(t *testing.T) {
	l := slices.Repeat(row(doc(of("a", date(9)))), api.MaxReach-1)
	wantTime(t, "the last one", expiring(up("l.a"), 1), doc(of("l", list(append(l, doc(of("a", date(5))))...))), 1005)
	wantTime(t, "one more", expiring(up("l.a"), 1), doc(of("l", list(append(l, doc(), doc(of("a", date(5))))...))), 1009)
	wantTime(t, "far behind in a list", expiring(up("l"), 1), doc(of("l", list(append(slices.Repeat(row(null()), 5000), date(5))...))), 1005)
}

// TestExpiresOfWhatIsNone: of what is no document no path shows a date; of what may not be, however deep or long, the call ends (W1, P10.3).
func TestExpiresOfWhatIsNone(t *testing.T) {
	for _, v := range append(kinds(), api.Value{}, api.Value{Kind: 12}, api.Value{Kind: -5}, api.Value{Kind: api.KindDate, Int: 5, Doc: doc(of("t", date(1))).Doc}) {
		wantNever(t, "no document", expiring(up("t"), 5), v)
	}
	for _, l := range wrong() {
		for _, v := range l {
			index.Expires(expiring(up("a"), 5), v)
		}
	}
	for _, docs := range []bool{false, true} {
		deep := doc(of("a", nest(num(1), 1<<16-2, docs)))
		for _, p := range []string{"a", "a.a", "a.0.0.0", "a.a.a.a.a.a.a.a.a.a"} {
			wantNever(t, "deep", expiring(up(p), 5), deep)
			wantError(t, "deep", on(up(p)), deep, api.ErrBig)
		}
	}
	wantTime(t, "long", expiring(up("a"), 1), doc(of("a", list(slices.Repeat(row(date(7)), 1<<20)...))), 1007)
}
