package tree_test

import (
	"slices"
	"strings"
	"testing"

	"coffret/api"
	"coffret/page"
	"coffret/tree"
)

// shuffled are texts in any order.
func (d *dice) shuffled(l []string) []string {
	l = slices.Clone(l)
	for i := range l {
		j := i + d.below(len(l)-i)
		l[i], l[j] = l[j], l[i]
	}
	return l
}

// order is how entries come, or go.
type order struct {
	what string
	of   func(l []string) []string
}

// TestGrowAndShrink: entries come and go in order, in the turned one, in any: the nodes are never too great, too small or too many (P16.6).
func TestGrowAndShrink(t *testing.T) {
	d := dice(11)
	orders := []order{
		{"rising", func(l []string) []string { return l }},
		{"falling", func(l []string) []string { slices.Reverse(l); return l }},
		{"any", d.shuffled},
	}
	for what, size := range sizes() {
		_, all := planted(t, &d, 12, size)
		for _, come := range orders {
			for _, gone := range orders {
				x, m := tree.New(), model{}
				for _, key := range come.of(all.keys("", "", false)) {
					put(t, x, m, key, all[key])
					wantCounts(t, what+", "+come.what, x, m)
				}
				wantStand(t, what+", "+come.what, x, m)
				for _, key := range gone.of(all.keys("", "", false)) {
					remove(t, x, m, key)
					wantCounts(t, what+", "+come.what+", gone "+gone.what, x, m)
				}
			}
		}
	}
}

// TestOtherSizes: short entries among which long ones come, and long ones among which short ones come, all kinds behind all kinds (P16.6).
func TestOtherSizes(t *testing.T) {
	d := dice(12)
	for before, size := range sizes() {
		for behind, other := range sizes() {
			x, m := planted(t, &d, 7, size)
			ahead := d.shuffled(m.keys("", "", false))
			for i, key := range ahead {
				put(t, x, m, key[:len(key)-len(key)/2], "")
				wantCounts(t, before+", "+behind, x, m)
				other, value := d.entry(other)
				put(t, x, m, other, value)
				wantCounts(t, before+", "+behind, x, m)
				if i%3 > 0 {
					remove(t, x, m, key)
					wantCounts(t, before+", "+behind, x, m)
				}
			}
			wantStand(t, before+", "+behind, x, m)
			for _, key := range d.shuffled(m.keys("", "", false)) {
				remove(t, x, m, key)
				wantCounts(t, before+", "+behind, x, m)
			}
		}
	}
}

// TestFirstKeys: a first key that becomes longer or shorter makes the nodes above longer or shorter, whether it comes or goes (P16.6).
func TestFirstKeys(t *testing.T) {
	d := dice(13)
	x, m := tree.New(), model{}
	for i := range 120 {
		head := string([]byte{byte(2 * i)})
		put(t, x, m, head, "")
		put(t, x, m, head+strings.Repeat("k", 1099), strings.Repeat("v", d.below(257)))
	}
	wantCounts(t, "two of each", x, m)
	for range 3 {
		for _, key := range d.shuffled(m.keys("", "", false)) {
			if len(key) == 1 {
				remove(t, x, m, key)
				wantCounts(t, "a short one gone", x, m)
			}
		}
		for _, i := range []int{7, 3, 90, 0, 1, 2, 44, 45, 46, 119, 60} {
			put(t, x, m, string([]byte{byte(2 * i)}), "")
			wantCounts(t, "a short one", x, m)
		}
	}
	wantStand(t, "first keys", x, m)
}

// TestOneNode: a node alone is as great as a body may be, then there are three (P16.6).
func TestOneNode(t *testing.T) {
	x, m := tree.New(), model{}
	for i := range 14 {
		put(t, x, m, string([]byte{byte(i)}), strings.Repeat("v", 256))
		if s := x.Shape(); s != (api.Shape{Depth: 1, Nodes: 1, Leaves: 1}) {
			t.Errorf("%d bytes: %+v", x.Bytes(), s)
		}
	}
	for i := range 14 {
		put(t, x, m, string([]byte{byte(i)})+"2", strings.Repeat("v", 256))
	}
	s := x.Shape()
	if s.Depth != 2 || s.Nodes != s.Leaves+1 || s.Leaves < 2 {
		t.Errorf("%d bytes: %+v", x.Bytes(), s)
	}
	for i := range 14 {
		remove(t, x, m, string([]byte{byte(i)}))
		remove(t, x, m, string([]byte{byte(i)})+"2")
	}
	wantStand(t, "all gone", x, m)
}

// shapeOn is how a tree stands, told from its pages.
func shapeOn(t *testing.T, x *tree.Tree) api.Shape {
	t.Helper()
	h := disk(1 + x.Shape().Nodes)
	root := wantFlush(t, "its pages", x, h.Disk(), spaced(t, 1+x.Shape().Nodes))
	var s api.Shape
	var look func(number, depth int)
	look = func(number, depth int) {
		n := nodeAt(t, h, number)
		s.Nodes++
		if number != root {
			_, body, _ := page.Read(h.Disk(), number)
			s.Most = max(s.Most, len(body))
			if s.Least == 0 {
				s.Least = len(body)
			}
			s.Least = min(s.Least, len(body))
		}
		if n.level == 0 {
			s.Leaves++
			if s.Depth != 0 && s.Depth != depth {
				t.Error("leaves of unlike depths")
			}
			s.Depth = depth
		}
		for _, below := range n.below {
			look(below, depth+1)
		}
	}
	if root > 0 {
		look(root, 1)
	}
	return s
}

// TestShape: it tells of the nodes that lie on no page yet what stands in their pages behind a Flush; all leaves are equally deep (P16.6).
func TestShape(t *testing.T) {
	d := dice(14)
	for what, size := range sizes() {
		x, m := tree.New(), model{}
		for range 12 {
			before := x.Shape()
			if on := shapeOn(t, x.Clone()); on != before {
				t.Errorf("%s: Shape %+v, on the pages %+v", what, before, on)
			}
			grow(t, &d, x, m, 5, size)
		}
		if s := x.Shape(); s.Depth < 4 && what == "long keys" || s.Depth > 2 && what == "short" {
			t.Errorf("%s: %+v", what, s)
		}
	}
}

// TestMany: a tree of many entries (P16.3, P16.6).
func TestMany(t *testing.T) {
	x := tree.New()
	key := func(i int) string { return string([]byte{byte(i * 37), byte(i >> 8), byte(i >> 16), byte(i)}) }
	for i := range 100000 {
		x.Put(key(i), "1234")
	}
	s := x.Shape()
	if x.Len() != 100000 || x.Bytes() != 1200000 || s.Depth != 3 || s.Least < api.MinBody || s.Most > api.MaxBody || s.Nodes > 1+1200000/api.NodeShare {
		t.Errorf("Len %d, Bytes %d, %+v", x.Len(), x.Bytes(), s)
	}
	for i := range 99990 {
		if !x.Delete(key(i)) {
			t.Fatalf("the key %d", i)
		}
	}
	if s := x.Shape(); x.Len() != 10 || x.Bytes() != 120 || s != (api.Shape{Depth: 1, Nodes: 1, Leaves: 1}) {
		t.Errorf("Len %d, Bytes %d, %+v", x.Len(), x.Bytes(), s)
	}
}
