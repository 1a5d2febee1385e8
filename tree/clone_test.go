package tree_test

import (
	"maps"
	"testing"

	"coffret/tree"
)

// TestClone: it stands alike, and what is done to either isn't seen by the other (P16.5).
func TestClone(t *testing.T) {
	d := dice(21)
	for what, size := range sizes() {
		for _, thousands := range []int{0, 1, 6, 40} {
			x, m := planted(t, &d, thousands, size)
			y, n := x.Clone(), maps.Clone(m)
			if x.Shape() != y.Shape() {
				t.Errorf("%s: Shape %+v, of the clone %+v", what, x.Shape(), y.Shape())
			}
			wantStand(t, what+", the clone", y, n)
			for range 60 {
				step(t, &d, x, m, size, 4)
				wantCounts(t, what+", the clone", y, n)
			}
			wantStand(t, what, x, m)
			wantStand(t, what+", the clone", y, n)
			for range 60 {
				step(t, &d, y, n, size, 7)
				wantCounts(t, what, x, m)
			}
			wantStand(t, what, x, m)
			wantStand(t, what+", the clone", y, n)
		}
	}
}

// TestClonesInTurn: many of one another, each changed between the others' changes (P16.5).
func TestClonesInTurn(t *testing.T) {
	d := dice(22)
	for what, size := range sizes() {
		x, m := planted(t, &d, 20, size)
		trees, models := []*tree.Tree{x}, []model{m}
		for range 200 {
			i := d.below(len(trees))
			if d.below(20) == 0 && len(trees) < 6 {
				trees, models = append(trees, trees[i].Clone()), append(models, maps.Clone(models[i]))
			}
			step(t, &d, trees[i], models[i], size, 5)
		}
		for i, x := range trees {
			wantStand(t, what, x, models[i])
		}
	}
}

// TestClonePages: a clone's nodes lie on the pages on which they lay, and it lets those go as the first tree would (P16.5, P16.7).
func TestClonePages(t *testing.T) {
	d := dice(23)
	for what, size := range sizes() {
		x, m := planted(t, &d, 30, size)
		h, s := disk(400), spaced(t, 400)
		root := wantFlush(t, what, x, h.Disk(), s)
		y, n := x.Clone(), maps.Clone(m)
		waiting := h.Waiting()
		if again := wantFlush(t, what+", another clone", x.Clone(), h.Disk(), s); again != root || h.Waiting() != waiting {
			t.Errorf("%s: the clone's root is %d, want %d; %d writes", what, again, root, h.Waiting()-waiting)
		}
		for range 5 {
			step(t, &d, x, m, size, 5)
			step(t, &d, y, n, size, 5)
		}
		one, other := s.Clone(), s.Clone()
		for _, z := range []struct {
			x *tree.Tree
			m model
		}{{x, m}, {y, n}} {
			into := one
			if z.x == y {
				into = other
			}
			g := copied(h)
			root := wantFlush(t, what, z.x, g.Disk(), into)
			_, pages := wantLoad(t, what, g.Disk(), root, z.m)
			into.Turn()
			wantUsed(t, what, into, pages, nil)
		}
	}
}

// TestCloneFlush: what either is flushed to, the other one doesn't see: it takes pages of its own (P16.5).
func TestCloneFlush(t *testing.T) {
	d := dice(24)
	for what, size := range sizes() {
		for _, changed := range []bool{false, true} {
			x, m := planted(t, &d, 30, size)
			h, s := disk(600), spaced(t, 600)
			if changed {
				wantFlush(t, what, x, h.Disk(), s)
				put(t, x, m, "another one", "")
			}
			before, _ := s.Used()
			y := x.Clone()
			root := wantFlush(t, what, x, h.Disk(), s)
			_, pages := wantLoad(t, what, h.Disk(), root, m)
			again := wantFlush(t, what+", the clone", y, h.Disk(), s)
			_, others := wantLoad(t, what+", the clone", h.Disk(), again, m)
			for _, number := range without(pages, before) {
				if len(without([]int{number}, others)) == 0 {
					t.Errorf("%s: both have the page %d", what, number)
				}
			}
			if len(others) != len(pages) || again == root {
				t.Errorf("%s: the roots %d, %d, the pages %v, %v", what, root, again, pages, others)
			}
			wantLoad(t, what, h.Disk(), root, m)
		}
	}
}
