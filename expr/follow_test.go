package expr_test

import (
	"slices"
	"strings"
	"testing"
	"time"

	"coffret/api"
	"coffret/expr"
	"coffret/value"
)

// plainValue is some value in which no text and no name begins with `$`, unless it may.
func plainValue(d *dice, deep int, dollars bool) api.Value {
	name := func() string {
		if dollars && d.below(2) == 0 {
			return pick(d, "$", "$a", "$$x", "$add", "$literal", "$$ROOT")
		}
		return pick(d, "", "a", "b$", "é", "x.y", "_id", " $", "ROOT")
	}
	switch d.below(7) {
	case 0, 1:
		if deep > 0 {
			v := list()
			for range d.below(5) {
				v.List = append(v.List, plainValue(d, deep-1, dollars))
			}
			return v
		}
	case 2, 3:
		if deep > 0 {
			v := doc()
			for range d.below(4) {
				if s := name(); s != "" {
					v = value.With(v, s, plainValue(d, deep-1, dollars))
				}
			}
			return v
		}
	case 4:
		return txt(name())
	}
	return pick(d, kinds()...)
}

// TestPlain: a value without `$` comes to itself, of whatever document; of `$literal` each does (P5.5).
func TestPlain(t *testing.T) {
	d := dice(7)
	for range 5000 {
		v := plainValue(&d, 4, false)
		of := plainValue(&d, 3, true)
		wantValue(t, v, of, v, api.OK)
		v = plainValue(&d, 4, true)
		wantValue(t, op("$literal", v), of, v, api.OK)
		wantValue(t, list(op("$literal", v)), of, list(v), api.OK)
	}
	for n, want := range map[int]api.Errno{api.MaxConds: api.OK, api.MaxConds + 1: api.ErrExprForm} {
		v := list(many(num(1), n)...)
		if got, e := eval(t, v, doc()); e != want || e == api.OK && !same(got, v) {
			t.Error(n, e)
		}
		wantValue(t, op("$literal", v), doc(), v, api.OK)
	}
}

// TestAlways: what Eval comes to hangs on the expression and the document alone (P5.5).
func TestAlways(t *testing.T) {
	m := &maker{dice: new(dice)}
	*m.dice = 3
	for range 2000 {
		v := m.any(3)
		x, e := expr.Parse(v)
		if e != api.OK {
			continue
		}
		first, e := x.Eval(sample())
		x.Eval(val(`{"l": [9], "a": "other"}`))
		x.Eval(num(5))
		y, _ := expr.Parse(value.Clone(v))
		for _, z := range []*expr.Expr{x, y} {
			if got, f := z.Eval(value.Clone(sample())); f != e || !same(got, first) {
				t.Fatalf("%s: %s, then %s", show(v), show(first), show(got))
			}
		}
	}
}

// TestSums: not on the order; a difference added again; what is divided, and what is left (P5.6).
func TestSums(t *testing.T) {
	d := dice(13)
	number := func() int { return pick(&d, append(edges(), d.below(1000)-500, d.below(1<<30)<<d.below(33))...) }
	same4 := 0
	for range 30000 {
		l := []api.Value{num(number()), num(number()), num(number()), date(number())}[:2+d.below(3)]
		turned := slices.Clone(l)
		slices.Reverse(turned)
		got, e := eval(t, call("$add", l...), doc())
		other, f := eval(t, call("$add", turned...), doc())
		if e == api.OK && f == api.OK {
			same4++
			if !same(got, other) {
				t.Fatal(show(list(l...)), show(got), show(other))
			}
		}
		a, b := num(number()), num(number())
		if _, e := eval(t, call("$subtract", a, b), doc()); e == api.OK {
			wantValue(t, call("$add", call("$subtract", a, b), b), doc(), a, api.OK)
			when := date(a.Int)
			wantValue(t, call("$add", call("$subtract", when, b), b), doc(), when, api.OK)
			wantValue(t, call("$add", call("$subtract", when, date(b.Int)), date(b.Int)), doc(), when, api.OK)
		}
		if b.Int != 0 && (a.Int != api.MinInt || b.Int != -1) {
			wantValue(t, call("$add", call("$multiply", call("$divide", a, b), b), call("$mod", a, b)), doc(), a, api.OK)
		}
	}
	if same4 < 1000 {
		t.Error("too few sums", same4)
	}
}

// TestSplitJoined: a text that was split and joined by the piece is the text (P5.6).
func TestSplitJoined(t *testing.T) {
	d := dice(17)
	some := func(n int) string {
		var b strings.Builder
		for range d.below(n) {
			b.WriteString(pick(&d, "a", "b", "é", "aa", ",", "😀", "\x00"))
		}
		return b.String()
	}
	for range 5000 {
		s, by := some(12), some(3)
		if by == "" {
			wantValue(t, call("$split", txt(s), txt(by)), doc(), api.Value{}, api.ErrExprKind)
			continue
		}
		got, e := eval(t, call("$split", txt(s), txt(by)), doc())
		var l []string
		for _, v := range got.List {
			l = append(l, v.Text)
		}
		if e != api.OK || strings.Join(l, by) != s {
			t.Fatalf("%q by %q: %q", s, by, l)
		}
		joined := val(`{"$reduce": {"input": {"$split": ["$s", "$by"]}, "initial": null, "in": {"$cond": [{"$eq": ["$$value", null]}, "$$this", {"$concat": ["$$value", "$by", "$$this"]}]}}}`)
		wantValue(t, joined, doc(of("s", txt(s)), of("by", txt(by))), txt(s), api.OK)
	}
}

// TestDatesRise: the parts make the date, and rise with it; a day later the weekday is the next one (P5.7).
func TestDatesRise(t *testing.T) {
	const day = 86400000
	x := dateExpr(t)
	parts := func(ms int) []int {
		got, e := x.Eval(date(ms))
		if e != api.OK || len(got.List) != 8 {
			t.Fatal(ms, e)
		}
		var l []int
		for _, v := range got.List {
			l = append(l, v.Int)
		}
		return l
	}
	d := dice(19)
	last, was := api.MinInt, parts(api.MinInt)
	for last < api.MaxInt-1<<53 {
		ms := last + 1 + d.below(1<<30)>>d.below(30)<<d.below(24)
		l := parts(ms)
		if slices.Compare(was[:7], l[:7]) >= 0 {
			t.Fatalf("%d: %v, %d: %v", last, was, ms, l)
		}
		made := time.Date(l[0], time.Month(l[1]), l[2], l[3], l[4], l[5], l[6]*1e6, time.UTC)
		if int(made.UnixMilli()) != ms {
			t.Fatalf("%d: %v", ms, l)
		}
		if next := parts(ms + day); next[7] != (l[7]+1)%7 || !slices.Equal(next[3:7], l[3:7]) {
			t.Fatalf("%d: %v, a day later %v", ms, l, next)
		}
		last, was = ms, l
		if d.below(100) == 0 {
			last, was = last+1<<52, parts(last+1<<52)
		}
	}
}
