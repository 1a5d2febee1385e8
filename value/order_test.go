package value_test

import (
	"testing"

	"coffret/api"
	"coffret/value"
)

// TestCompare holds each value of a rising row against each (P1.3, and P1.7 of values that are right).
func TestCompare(t *testing.T) {
	l := rising()
	for i := range l {
		for k := range l {
			if got := value.Compare(l[i], l[k]); got != sign(i-k) {
				t.Errorf("Compare(%v, %v) is %d, not %d", l[i], l[k], got, sign(i-k))
			}
			if (value.Compare(l[i], value.Clone(l[k])) == 0) != same(l[i], l[k]) {
				t.Errorf("%v and %v: alike and the same are not one", l[i], l[k])
			}
		}
	}
}

// TestCompareWithin: what decides between two values decides within lists and documents, and depth by depth.
func TestCompareWithin(t *testing.T) {
	l := rising()
	for i := range l {
		for k := range l {
			want := sign(i - k)
			for _, wrap := range []func(v api.Value) api.Value{
				func(v api.Value) api.Value { return list(v) },
				func(v api.Value) api.Value { return list(null(), v, num(k)) },
				func(v api.Value) api.Value { return doc(of("a", v)) },
				func(v api.Value) api.Value { return doc(of("a", null()), of("b", v), of("c", num(k))) },
				func(v api.Value) api.Value { return nest(v, 19, true) },
			} {
				if got := value.Compare(wrap(l[i]), wrap(l[k])); got != want {
					t.Errorf("%v and %v, wrapped: %d, not %d", l[i], l[k], got, want)
				}
			}
		}
	}
}

func TestCompareExamples(t *testing.T) {
	for i, x := range []struct {
		a, b api.Value
		want int
	}{
		{num(5), num(7), -1},
		{num(5), txt("a"), -1},
		{list(num(1), num(2)), list(num(1)), 1},
		{doc(of("a", num(1))), doc(of("b", num(0))), -1},
		{num(api.MaxInt), num(api.MinInt), 1},
		{date(api.MinInt), date(api.MaxInt), -1},
		{txt("\xff"), txt("a"), 1},
		{doc(of("b", num(1)), of("a", num(2))), doc(of("a", num(2)), of("b", num(1))), 1},
		{doc(of("a", num(1)), of("b", num(1))), doc(of("a", num(2))), -1},
		{doc(of("a", num(1)), of("z", num(1))), doc(of("a", num(1)), of("b", num(1)), of("c", num(1))), 1},
		{list(num(9), num(9), num(9)), list(num(10)), -1},
	} {
		if got := value.Compare(x.a, x.b); got != x.want {
			t.Errorf("row %d: Compare is %d, not %d", i, got, x.want)
		}
	}
}

// TestCompareOdd: values that may not be have their place, too.
func TestCompareOdd(t *testing.T) {
	for i, x := range []struct {
		a, b api.Value
		want int
	}{
		{api.Value{}, api.Value{}, 0},
		{api.Value{}, api.Value{Kind: api.KindMin}, -1},
		{api.Value{Kind: -1}, api.Value{}, -1},
		{api.Value{Kind: api.MinInt}, api.Value{Kind: api.MaxInt}, -1},
		{api.Value{Kind: 12}, api.Value{Kind: api.KindMax}, 1},
		{api.Value{Kind: 12, Int: 1}, api.Value{Kind: 12, Int: 2}, 0},
		{api.Value{Text: "a"}, api.Value{Text: "b"}, 0},
		{api.Value{Kind: api.KindNull, Int: 2}, api.Value{Kind: api.KindNull, Int: 1}, 0},
		{api.Value{Kind: api.KindMin, List: nulls(1).List}, api.Value{Kind: api.KindMin}, 0},
		{api.Value{Kind: api.KindMax, Doc: named(1).Doc}, api.Value{Kind: api.KindMax, Text: "x"}, 0},
		{api.Value{Kind: api.KindInt, Int: 1, Text: "b"}, api.Value{Kind: api.KindInt, Int: 1, Text: "a"}, 0},
		{api.Value{Kind: api.KindText, Text: "a", Int: 2}, api.Value{Kind: api.KindText, Text: "a", Int: 1}, 0},
		{api.Value{Kind: api.KindList, Int: 2}, api.Value{Kind: api.KindList, Doc: named(2).Doc}, 0},
		{api.Value{Kind: api.KindDoc, Int: 2}, api.Value{Kind: api.KindDoc, List: nulls(2).List}, 0},
		{flag(2), flag(1), 1},
		{flag(-1), flag(0), -1},
		{id("b"), id("ab"), 1},
		{id("a"), id("ab"), -1},
		{doc(of("a", num(1)), of("a", num(2))), doc(of("a", num(1)), of("a", num(3))), -1},
		{doc(of("a", api.Value{})), doc(of("a", null())), -1},
		{doc(of("", num(1))), doc(of("a", num(0))), -1},
	} {
		if got := value.Compare(x.a, x.b); got != x.want {
			t.Errorf("row %d: Compare is %d, not %d", i, got, x.want)
		}
		if got := value.Compare(x.b, x.a); got != -x.want {
			t.Errorf("row %d, turned round: Compare is %d, not %d", i, got, -x.want)
		}
	}
}

// TestOrderIsOne: turned round, and from one to the next to the next (P1.7).
func TestOrderIsOne(t *testing.T) {
	l := append(rising(), odd()...)
	for _, a := range l {
		if value.Compare(a, a) != 0 {
			t.Errorf("%v is unlike itself", a)
		}
		for _, b := range l {
			ab := value.Compare(a, b)
			if ab < -1 || ab > 1 || value.Compare(b, a) != -ab {
				t.Errorf("%v and %v: %d, turned round %d", a, b, ab, value.Compare(b, a))
			}
			for _, c := range l {
				bc := value.Compare(b, c)
				if ab <= 0 && bc <= 0 && value.Compare(a, c) != min(ab, bc) {
					t.Errorf("%v, %v, %v: %d, %d, %d", a, b, c, ab, bc, value.Compare(a, c))
				}
			}
		}
	}
}

// TestSort: rising, falling and mixed rows come out in order, each value as often as it was (P1.5, P1.8).
func TestSort(t *testing.T) {
	want := rising()
	many := len(want)
	for step := 1; step < many; step++ {
		if common(step, many) != 1 {
			continue
		}
		var l []api.Value
		for i := range many {
			l = append(l, want[i*step%many])
		}
		got := value.Sort(l)
		if len(got) != many {
			t.Fatalf("step %d: %d values of %d", step, len(got), many)
		}
		for i := range got {
			wantSame(t, "sorted", got[i], want[i])
		}
		for i, v := range value.Sort(got) {
			wantSame(t, "sorted again", v, want[i])
		}
	}
}

// common is the greatest number that both can be divided by.
func common(a, b int) int {
	for b != 0 {
		a, b = b, a%b
	}
	return a
}

func TestSortOfFew(t *testing.T) {
	if got := value.Sort(nil); len(got) != 0 {
		t.Error(got)
	}
	if got := value.Sort([]api.Value{}); len(got) != 0 {
		t.Error(got)
	}
	if got := value.Sort([]api.Value{{}}); len(got) != 1 || got[0].Kind != 0 {
		t.Error(got)
	}
	for _, l := range [][]api.Value{{num(2), num(1)}, {num(1), num(2)}} {
		if got := value.Sort(l); len(got) != 2 || got[0].Int != 1 || got[1].Int != 2 {
			t.Error(got)
		}
	}
}

// TestSortKeepsTwins: values that are the same all stay.
func TestSortKeepsTwins(t *testing.T) {
	var l []api.Value
	for i := range 300 {
		l = append(l, num(i*7%5), txt("x"))
	}
	got := value.Sort(l)
	if len(got) != len(l) || !isRising(got) {
		t.Fatal(len(got))
	}
	many := map[int]int{}
	for _, v := range got[:300] {
		many[v.Int]++
	}
	for n := range 5 {
		if many[n] != 60 {
			t.Errorf("%d: %d times", n, many[n])
		}
	}
	for _, v := range got[300:] {
		wantSame(t, "text", v, txt("x"))
	}
}

// TestSortIsSteady: values that are alike, but not the same, stay as they stood.
func TestSortIsSteady(t *testing.T) {
	for _, many := range []int{2, 3, 5, 12, 13, 50, 1000} {
		var l []api.Value
		for i := range many {
			l = append(l, api.Value{Kind: []int{api.KindMax, api.KindNull, 0}[i%3], Int: i})
		}
		got := value.Sort(l)
		if len(got) != many {
			t.Fatalf("%d values of %d", len(got), many)
		}
		for i := 1; i < many; i++ {
			a, b := got[i-1], got[i]
			if a.Kind > b.Kind || a.Kind == b.Kind && a.Int >= b.Int {
				t.Errorf("%d values: %v ahead of %v", many, a, b)
			}
		}
	}
}
