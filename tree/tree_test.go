package tree_test

import (
	"slices"
	"strings"
	"testing"

	"coffret/api"
	"coffret/tree"
)

// TestExamples are the chapter's (P16.1 to P16.4, P16.6).
func TestExamples(t *testing.T) {
	x := tree.New()
	if x.Len() != 0 || x.Bytes() != 0 || x.Shape() != (api.Shape{}) || x.Delete("a") {
		t.Error("New")
	}
	wantStand(t, "New", x, model{})
	wantGet(t, "New", x, model{}, "a")
	wantGet(t, "New", x, model{}, "")
	m := model{}
	put(t, x, m, "b", "22")
	put(t, x, m, "a", "1")
	put(t, x, m, "b", "3")
	if v, is := x.Get("b"); x.Len() != 2 || x.Bytes() != 12 || v != "3" || !is {
		t.Errorf("Len %d, Bytes %d, Get(b) %s, %v", x.Len(), x.Bytes(), v, is)
	}
	wantStand(t, "three puts", x, model{"a": "1", "b": "3"})
	wantAll(t, "up to b", x, model{"a": "1"}, "a", "b", false)
	if e := x.Put(strings.Repeat("k", 1101), ""); e != api.ErrTreeKey {
		t.Errorf("a long key: %v", e)
	}
	if e := x.Put("k", strings.Repeat("v", 257)); e != api.ErrTreeValue {
		t.Errorf("a long value: %v", e)
	}
	wantStand(t, "refused", x, m)
}

// TestPutEdges: the shortest and the longest keys and values; what is longer is refused, and nothing has changed; of two errors the one that is named first is told (P16.2, W3, W4).
func TestPutEdges(t *testing.T) {
	x, m := tree.New(), model{}
	for range 2 {
		for _, n := range []int{0, 1, 255, 256, 257, 1099, 1100} {
			for _, v := range []int{0, 1, 255, 256} {
				put(t, x, m, strings.Repeat("k", n), strings.Repeat("v", v))
				wantStand(t, "edge", x, m)
			}
		}
	}
	for _, there := range []bool{true, false} {
		for _, n := range []int{1101, 1102, 1100 + 65536, 1 << 20} {
			for _, v := range []int{0, 256, 257, 1 << 16} {
				if e := x.Put(strings.Repeat("k", n), strings.Repeat("v", v)); e != api.ErrTreeKey {
					t.Errorf("Put of %d and %d bytes: %v", n, v, e)
				}
			}
			wantGet(t, "no key", x, m, strings.Repeat("k", n))
			remove(t, x, m, strings.Repeat("k", n))
		}
		for _, v := range []int{257, 258, 256 + 256, 256 + 65536, 1 << 20} {
			for _, n := range []int{0, 1, 1100} {
				if e := x.Put(strings.Repeat("k", n), strings.Repeat("v", v)); e != api.ErrTreeValue {
					t.Errorf("Put of %d and %d bytes: %v", n, v, e)
				}
			}
		}
		wantStand(t, "refused", x, m)
		if there {
			for _, n := range []int{0, 1, 1100} {
				remove(t, x, m, strings.Repeat("k", n))
			}
		}
	}
}

// TestOrder: keys stand as their bytes do, whatever these are (P16.4).
func TestOrder(t *testing.T) {
	x, m := tree.New(), model{}
	for _, key := range []string{"", "\x00", "\x00\x00", "\x00\xff", "a", "a\x00", "aa", "b", "\x7f", "\x80", "\xc3\xa9", "\xff", "\xff\xff", "\xff\x00", "Z", "é", "ж"} {
		put(t, x, m, key, key)
	}
	wantStand(t, "any bytes", x, m)
	for _, from := range m.keys("", "", false) {
		for _, to := range m.keys("", "", false) {
			wantAll(t, "any bytes", x, m, from, to, false)
			wantAll(t, "any bytes", x, m, from, to, true)
		}
	}
}

// TestAnyCalls: behind any row of calls a tree tells what the model does (P16.1 to P16.4, P16.6).
func TestAnyCalls(t *testing.T) {
	d := dice(1)
	for what, size := range sizes() {
		x, m := tree.New(), model{}
		for _, deletes := range []int{2, 8, 4, 5, 9} {
			grow(t, &d, x, m, 10, size)
			for range 120 {
				step(t, &d, x, m, size, deletes)
				wantCounts(t, what, x, m)
			}
			wantStand(t, what, x, m)
			for range 20 {
				from, _ := d.entry(size)
				to, _ := d.entry(size)
				keys := append(m.keys("", "", false), from, to, "")
				from, to = keys[d.below(len(keys))], keys[d.below(len(keys))]
				wantAll(t, what, x, m, from, to, false)
				wantAll(t, what, x, m, from, to, true)
				wantAll(t, what, x, m, from+"\x00", to, false)
				wantAll(t, what, x, m, from, to+"\x00", true)
				wantGet(t, what, x, m, from)
			}
		}
	}
}

// TestSameValue: a value may be put again, and another one in its place, longer or shorter (P16.2, P16.3).
func TestSameValue(t *testing.T) {
	d := dice(2)
	x, m := planted(t, &d, 8, sizers()["short"])
	for _, n := range []int{256, 256, 0, 0, 100, 256, 3} {
		for _, key := range m.keys("", "", n%2 == 0) {
			put(t, x, m, key, strings.Repeat("v", n))
			wantCounts(t, "the same keys", x, m)
		}
		wantStand(t, "the same keys", x, m)
	}
}

// TestAllBounds: from or to at each key of a tree, beside it, and turned (P16.4).
func TestAllBounds(t *testing.T) {
	d := dice(3)
	for what, size := range sizes() {
		x, m := planted(t, &d, 3, size)
		for _, key := range m.keys("", "", false) {
			for _, near := range []string{key, key + "\x00", key[:len(key)-min(len(key), 1)]} {
				for _, back := range []bool{false, true} {
					wantAll(t, what, x, m, near, "", back)
					wantAll(t, what, x, m, "", near, back)
					wantAll(t, what, x, m, near, near, back)
					wantAll(t, what, x, m, near, key+"\x00", back)
					wantAll(t, what, x, m, near+"\x01", near, back)
				}
			}
		}
	}
}

// TestAllEnds: an iterator asks no more once nobody asks for more (P16.4).
func TestAllEnds(t *testing.T) {
	d := dice(4)
	x, m := planted(t, &d, 30, sizers()["long"])
	for _, back := range []bool{false, true} {
		want := m.keys("", "", back)
		for many := 1; many <= len(want); many++ {
			var got []string
			x.All("", "", back)(func(key, value string) bool {
				got = append(got, key)
				return len(got) < many
			})
			if !slices.Equal(got, want[:many]) {
				t.Errorf("%d were asked for, %v: %d told", many, back, len(got))
			}
		}
	}
}

// TestAllAsItIs: what All tells is what there is when it is gone through, each time anew; what is done meanwhile does not touch it (P16.4).
func TestAllAsItIs(t *testing.T) {
	d := dice(5)
	for what, size := range sizes() {
		for _, back := range []bool{false, true} {
			x, m := tree.New(), model{}
			all := x.All("", "", back)
			for range 3 {
				grow(t, &d, x, m, 5, size)
				want := m.keys("", "", back)
				before := model{}
				for key, value := range m {
					before[key] = value
				}
				at := 0
				for key, value := range all {
					if at >= len(want) || key != want[at] || value != before[key] {
						t.Fatalf("%s: the entry %d is touched", what, at)
					}
					at++
					remove(t, x, m, key)
					step(t, &d, x, m, size, 6)
					wantCounts(t, what, x, m)
				}
				if at != len(want) {
					t.Errorf("%s: %d entries, want %d", what, at, len(want))
				}
				wantAll(t, what, x, m, "", "", back)
			}
		}
	}
}

// TestAllTwice: one iterator may be gone through while another one is (P16.4).
func TestAllTwice(t *testing.T) {
	d := dice(6)
	x, m := planted(t, &d, 16, sizers()["halves"])
	many := 0
	for range x.All("", "", false) {
		wantAll(t, "within", x, m, "", "", true)
		many++
	}
	if many != len(m) {
		t.Errorf("%d entries", many)
	}
}
