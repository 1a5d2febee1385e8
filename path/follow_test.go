package path_test

import (
	"slices"
	"testing"

	"coffret/api"
	"coffret/path"
)

// fewParts are all rows of at most so many parts, made of a few.
func fewParts(many int) [][]string {
	out := [][]string{nil}
	from := 0
	for range many {
		last := len(out)
		for _, l := range out[from:last] {
			for _, part := range []string{"a", "b", "0", "1", "2", "00", ""} {
				out = append(out, append(slices.Clone(l), part))
			}
		}
		from = last
	}
	return out
}

// begins tells whether a row is the beginning of another one.
func begins(a, b []string) bool {
	return len(a) <= len(b) && slices.Equal(a, b[:len(a)])
}

// TestAtOfSet: what was set is there, and what stands elsewhere is there still (P4.8).
func TestAtOfSet(t *testing.T) {
	d := dice(3)
	others := fewParts(3)
	found, done := 0, 0
	for range 4000 {
		v, l, x := d.any(4), d.parts(), d.any(2)
		after, e := path.Set(v, l, x)
		if e != api.OK {
			continue
		}
		done++
		if got, is := path.At(after, l); !is || !same(got, x) {
			t.Fatalf("Set of %v, %q, %v: %v there", v, l, x, got)
		}
		for _, other := range others {
			was, is := path.At(v, other)
			if !is || begins(other, l) || begins(l, other) {
				continue
			}
			found++
			if got, is := path.At(after, other); !is || !same(got, was) {
				t.Fatalf("Set of %v, %q: %v at %q", v, l, got, other)
			}
		}
	}
	if found < 1000 || done < 1000 {
		t.Errorf("too few: %d, %d", found, done)
	}
}

// TestAtOfUnset: nothing, or null (P4.8).
func TestAtOfUnset(t *testing.T) {
	d := dice(5)
	gone, nulls := 0, 0
	for range 20000 {
		v, l := d.any(4), d.parts()
		if _, is := path.At(v, l); len(l) == 0 || !is {
			continue
		}
		got, is := path.At(path.Unset(v, l), l)
		if is && !same(got, null()) {
			t.Fatalf("Unset of %v, %q: %v there", v, l, got)
		}
		if gone++; is {
			nulls++
		}
	}
	if nulls < 100 || gone-nulls < 100 {
		t.Errorf("too few: %d, %d", gone, nulls)
	}
}

// alongDocs tells whether no list stands on the way.
func alongDocs(v api.Value, l []string) bool {
	for i := range l {
		x, _ := path.At(v, l[:i])
		if x.Kind == api.KindList {
			return false
		}
	}
	return true
}

// TestReachOfAt: Reach leads to what At finds; to it alone, if no list stands on the way (P4.9).
func TestReachOfAt(t *testing.T) {
	d := dice(9)
	alone, among := 0, 0
	for range 60000 {
		v, l := d.any(4), d.parts()
		want, is := path.At(v, l)
		if !is {
			continue
		}
		got := path.Reach(v, l)
		if alongDocs(v, l) {
			alone++
			if !sameRows(got, row(want)) {
				t.Fatalf("%v, %q: Reach %v, At %v", v, l, got, want)
			}
		}
		among++
		if !slices.ContainsFunc(got, func(x api.Value) bool { return same(x, want) }) {
			t.Fatalf("%v, %q: Reach %v, At %v", v, l, got, want)
		}
	}
	if alone < 1000 || among-alone < 1000 {
		t.Errorf("too few: %d, %d", alone, among)
	}
}

// TestReachOfAtMany: with MaxReach values ahead of it, what At finds is met no more (P4.2, P4.9).
func TestReachOfAtMany(t *testing.T) {
	for _, n := range []int{api.MaxReach - 1, api.MaxReach, api.MaxReach + 1} {
		v := list(append(slices.Repeat(row(doc(of("a", num(1)))), n), txt("end"))...)
		l := []string{[]string{"999", "1000", "1001"}[n+1-api.MaxReach]}
		want, is := path.At(v, l)
		if !is || !same(want, txt("end")) {
			t.Error("At", want, is)
		}
		got := path.Reach(v, l)
		if met := same(got[len(got)-1], want); len(got) != api.MaxReach || met != (n < api.MaxReach) {
			t.Errorf("%d: %d met, %v", n, len(got), met)
		}
	}
}

// TestDeep: values nested as deep as the bound has it (W1).
func TestDeep(t *testing.T) {
	for _, docs := range []bool{false, true} {
		v := nest(num(7), 1<<16-1, docs)
		for _, part := range []string{"a", "0"} {
			l := slices.Repeat([]string{part}, api.MaxParts)
			path.Reach(v, l)
			path.Pick(v, l)
			path.Unset(v, l)
			at, is := path.At(v, l)
			set, e := path.Set(v, l, at)
			if leads := docs == (part == "a"); is != leads || leads && (e != api.OK || !same(set, v)) || docs && e != api.OK {
				t.Errorf("%v %s: %v %v", docs, part, is, e)
			}
		}
	}
	v := nest(num(7), 1<<16-1, false)
	wantSame(t, "Pick through all", path.Pick(v, []string{"x"}), nest(list(), 1<<16-2, false))
}
