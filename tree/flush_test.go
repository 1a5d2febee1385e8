package tree_test

import (
	"bytes"
	"slices"
	"testing"

	"coffret/api"
	"coffret/block"
	"coffret/space"
	"coffret/tree"
)

// TestFlushExamples are the chapter's (P16.7, P16.8).
func TestFlushExamples(t *testing.T) {
	x, m := tree.New(), model{}
	put(t, x, m, "b", "3")
	put(t, x, m, "a", "1")
	h, s := disk(10), spaced(t, 10, 1)
	if root := wantFlush(t, "first", x, h.Disk(), s); root != 2 {
		t.Errorf("Flush: %d", root)
	}
	if _, pages := wantLoad(t, "first", h.Disk(), 2, m); !slices.Equal(pages, []int{2}) {
		t.Errorf("Load: %v", pages)
	}
	if root := wantFlush(t, "again", x, h.Disk(), s); root != 2 {
		t.Errorf("Flush again: %d", root)
	}
	put(t, x, m, "c", "4")
	if root := wantFlush(t, "more", x, h.Disk(), s); root != 3 {
		t.Errorf("Flush of more: %d", root)
	}
	wantUsed(t, "more", s, []int{1, 3}, []int{2})
}

// TestFlushWrites: each node that lies on no page is written, once, into pages that were free; nothing else is, and nothing is synced (P16.7).
func TestFlushWrites(t *testing.T) {
	d := dice(31)
	ahead := bytes.Repeat([]byte{77}, api.SectorSize)
	for what, size := range sizes() {
		x, m := planted(t, &d, 30, size)
		h := disk(300)
		for at := range 300 * 8 {
			h.Plant(at, ahead)
		}
		s := spaced(t, 300, 1, 4, 5, 299)
		root := wantFlush(t, what, x, h.Disk(), s)
		_, pages := wantLoad(t, what, h.Disk(), root, m)
		if h.Waiting() != 8*len(pages) {
			t.Errorf("%s: %d nodes, %d writes wait", what, len(pages), h.Waiting())
		}
		for at := range 300 * 8 {
			if !slices.Contains(pages, at/8) && !bytes.Equal(h.Sector(at), ahead) {
				t.Errorf("%s: the sector %d has changed", what, at)
			}
		}
		least := slices.DeleteFunc(upTo(300), func(n int) bool { return slices.Contains([]int{0, 1, 4, 5, 299}, n) })
		if !slices.Equal(pages, least[:len(pages)]) {
			t.Errorf("%s: the pages %v", what, pages)
		}
		for _, number := range pages {
			if n := nodeAt(t, h, number); n.root == 1 != (number == root) {
				t.Errorf("%s: the page %d, of %d, says root %d", what, number, root, n.root)
			}
		}
	}
}

// upTo are the numbers below n.
func upTo(n int) []int {
	l := make([]int, n)
	for i := range l {
		l[i] = i
	}
	return l
}

// TestFlushAgain: what has not changed stays on its pages, a value that is put again, too; where an entry changes, few nodes do (P16.7).
func TestFlushAgain(t *testing.T) {
	d := dice(32)
	for what, size := range sizes() {
		x, m := planted(t, &d, 60, size)
		h, s := disk(700), spaced(t, 700)
		root := wantFlush(t, what, x, h.Disk(), s)
		_, pages := wantLoad(t, what, h.Disk(), root, m)
		h.Disk().Sync()
		h.Arm(0, false)
		for _, key := range d.shuffled(m.keys("", "", false))[:20] {
			put(t, x, m, key, m[key])
			remove(t, x, m, key+"?")
			if again := wantFlush(t, what+", again", x, h.Disk(), s); again != root {
				t.Errorf("%s: Flush again: %d, want %d", what, again, root)
			}
		}
		wantUsed(t, what+", again", s, pages, nil)
		h.Crash(nil)
		for range 30 {
			put(t, x, m, d.shuffled(m.keys("", "", false))[0], d.text(5))
			before := h.Waiting()
			depth := x.Shape().Depth
			root := wantFlush(t, what+", one changed", x, h.Disk(), s)
			if many := (h.Waiting() - before) / 8; many > 3*depth {
				t.Errorf("%s: %d nodes are written, of the depth %d", what, many, depth)
			}
			_, now := wantLoad(t, what+", one changed", h.Disk(), root, m)
			used, waits := s.Used()
			if !slices.Equal(used, append([]int{0}, now...)) || !slices.Equal(waits, without(pages, now)) {
				t.Errorf("%s: Used: %v, %v; the pages were %v and are %v", what, used, waits, pages, now)
			}
			s.Turn()
			pages = now
		}
	}
}

// TestFlushEmpty: without entries the answer is 0; the pages on which they lay are let go (P16.7).
func TestFlushEmpty(t *testing.T) {
	d := dice(33)
	x, m := planted(t, &d, 20, sizers()["any"])
	h, s := disk(200), spaced(t, 200)
	if root := wantFlush(t, "new", tree.New(), h.Disk(), s); root != 0 || h.Waiting() != 0 {
		t.Errorf("new: %d, %d writes", root, h.Waiting())
	}
	wantUsed(t, "new", s, nil, nil)
	root := wantFlush(t, "some", x, h.Disk(), s)
	_, pages := wantLoad(t, "some", h.Disk(), root, m)
	for _, key := range m.keys("", "", false) {
		remove(t, x, m, key)
	}
	h.Disk().Sync()
	h.Arm(0, false)
	if root := wantFlush(t, "none", x, h.Disk(), s); root != 0 || h.Down() {
		t.Errorf("none: %d", root)
	}
	wantUsed(t, "none", s, nil, pages)
	if root := wantFlush(t, "none, again", x, h.Disk(), s); root != 0 {
		t.Errorf("none, again: %d", root)
	}
	full, _ := space.New(1, []int{0})
	if root := wantFlush(t, "none, no page free", tree.New(), h.Disk(), full); root != 0 {
		t.Errorf("none, no page free: %d", root)
	}
}

// TestFlushArg: the page 0 is free, or waits; whatever else is wrong, nothing is done (P16.7, W4).
func TestFlushArg(t *testing.T) {
	d := dice(34)
	x, m := planted(t, &d, 10, sizers()["any"])
	free, _ := space.New(300, []int{1, 2})
	none, _ := space.New(300, nil)
	waits := spaced(t, 300, 1, 2)
	waits.Drop(0)
	small, _ := space.New(1, nil)
	down := disk(300)
	down.Arm(0, false)
	down.Disk().Sync()
	for _, s := range []*space.Space{free, none, waits, small} {
		before := s.Clone()
		for _, h := range []*block.Hand{disk(300), disk(1), block.New(0), down} {
			wantNoFlush(t, "the page 0", x, h.Disk(), s, api.ErrArg)
			wantNoFlush(t, "the page 0, no entries", tree.New(), h.Disk(), s, api.ErrArg)
			if h.Waiting() != 0 {
				t.Errorf("%d writes", h.Waiting())
			}
		}
		wantAlike(t, "the page 0", s, before)
	}
	wantStand(t, "not flushed", x, m)
	wantFlush(t, "flushed", x, disk(300).Disk(), spaced(t, 300))
	wantNoFlush(t, "flushed ahead", x, disk(300).Disk(), free, api.ErrArg)
}

// wantAlike wants a space to stand as another one does.
func wantAlike(t *testing.T, what string, s, want *space.Space) {
	t.Helper()
	used, waits := want.Used()
	if a, b := s.Used(); !slices.Equal(a, used) || !slices.Equal(b, waits) || s.Free() != want.Free() {
		t.Errorf("%s: Used %v, %v, want %v, %v", what, a, b, used, waits)
	}
}

// TestFlushFull: with a page less than are wanted nothing has changed, no act was done; with just as many it is flushed (P16.7).
func TestFlushFull(t *testing.T) {
	d := dice(35)
	for what, size := range sizes() {
		x, m := planted(t, &d, 20, size)
		nodes := x.Shape().Nodes
		for _, pages := range []int{nodes, 1 + nodes/2, 1} {
			h, s := disk(nodes+1), spaced(t, pages)
			before := s.Clone()
			wantNoFlush(t, what, x, h.Disk(), s, api.ErrFull)
			h.Arm(0, false)
			h.Disk().Sync()
			wantNoFlush(t, what+", down", x, h.Disk(), s, api.ErrFull)
			if h.Waiting() != 0 {
				t.Errorf("%s: %d writes", what, h.Waiting())
			}
			wantAlike(t, what, s, before)
			wantStand(t, what, x, m)
		}
		h, s := disk(nodes+1), spaced(t, nodes+1)
		root := wantFlush(t, what, x, h.Disk(), s)
		_, pages := wantLoad(t, what, h.Disk(), root, m)
		put(t, x, m, "one more", "")
		before := s.Clone()
		wantNoFlush(t, what+", one more", x, h.Disk(), s, api.ErrFull)
		wantAlike(t, what+", one more", s, before)
		wantUsed(t, what+", one more", s, pages, nil)
		remove(t, x, m, "one more")
		wantLoad(t, what, h.Disk(), root, m)
	}
}

// TestFlushRefused: whichever write is refused, done or not, all pages that were taken are free again, none was let go, and the tree stands as it stood (P16.7).
func TestFlushRefused(t *testing.T) {
	d := dice(36)
	for _, what := range []string{"long", "any", "short"} {
		x, m := planted(t, &d, 20, sizers()[what])
		h, s := disk(200), spaced(t, 200, 3)
		root := wantFlush(t, what, x, h.Disk(), s)
		h.Disk().Sync()
		before := model{}
		for key, value := range m {
			before[key] = value
		}
		for range 12 {
			step(t, &d, x, m, sizers()[what], 6)
		}
		stood := x.Shape()
		wanted := h.Waiting()
		wantFlush(t, what, x.Clone(), h.Disk(), s.Clone())
		wanted = h.Waiting() - wanted
		h.Crash(nil)
		for acts := range wanted {
			for _, done := range []bool{false, true} {
				was := s.Clone()
				h.Arm(acts, done)
				wantNoFlush(t, what, x, h.Disk(), s, api.ErrDown)
				wantAlike(t, what, s, was)
				wantNoFlush(t, what+", down", x, h.Disk(), s, api.ErrDown)
				wantAlike(t, what, s, was)
				h.Crash(nil)
				if x.Shape() != stood {
					t.Fatalf("%s: Shape %+v, want %+v", what, x.Shape(), stood)
				}
			}
		}
		wantStand(t, what, x, m)
		wantLoad(t, what, h.Disk(), root, before)
		h.Arm(wanted, false)
		again := wantFlush(t, what, x, h.Disk(), s)
		_, pages := wantLoad(t, what, h.Disk(), again, m)
		s.Turn()
		wantUsed(t, what, s, slices.Sorted(slices.Values(append(slices.Clone(pages), 3))), nil)
	}
}

// TestFlushSmallDisk: pages that the disk has not can't be written (P16.7).
func TestFlushSmallDisk(t *testing.T) {
	d := dice(37)
	x, m := planted(t, &d, 20, sizers()["long"])
	nodes := x.Shape().Nodes
	for _, sectors := range []int{0, 1, 8, 16, 8*nodes + 7} {
		s := spaced(t, nodes+1)
		before := s.Clone()
		wantNoFlush(t, "a small disk", x, block.New(sectors).Disk(), s, api.ErrArg)
		wantAlike(t, "a small disk", s, before)
		wantStand(t, "a small disk", x, m)
	}
}

// TestFlushNotThere: a page that waits already, or is none of the space's, is nothing to let go (W1).
func TestFlushNotThere(t *testing.T) {
	d := dice(38)
	for _, gone := range []bool{false, true} {
		x, m := planted(t, &d, 20, sizers()["long"])
		h, s := disk(400), spaced(t, 400, upTo(200)[1:]...)
		root := wantFlush(t, "one space", x, h.Disk(), s)
		_, pages := wantLoad(t, "one space", h.Disk(), root, m)
		if gone {
			s = spaced(t, 200)
			pages = nil
		}
		for _, number := range pages {
			s.Drop(number)
		}
		for range 40 {
			step(t, &d, x, m, sizers()["long"], 5)
		}
		root = wantFlush(t, "let go ahead", x, h.Disk(), s)
		wantLoad(t, "let go ahead", h.Disk(), root, m)
		if _, waits := s.Used(); !slices.Equal(waits, pages) {
			t.Errorf("%v wait, want %v", waits, pages)
		}
	}
}
