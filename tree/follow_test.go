package tree_test

import (
	"maps"
	"slices"
	"testing"

	"coffret/api"
	"coffret/block"
	"coffret/space"
	"coffret/tree"
)

// TestThereAndBack: each tree is loaded as it was when it was flushed, whatever was flushed later to other roots, as long as no turn is made (P16.8, P16.9).
func TestThereAndBack(t *testing.T) {
	d := dice(51)
	for what, size := range sizes() {
		x, m := planted(t, &d, 20, size)
		h, s := disk(1200), spaced(t, 1200)
		roots, models := []int{}, []model{}
		for range 15 {
			for range 8 {
				step(t, &d, x, m, size, 5)
			}
			put(t, x, m, d.text(9), "")
			roots, models = append(roots, wantFlush(t, what, x, h.Disk(), s)), append(models, maps.Clone(m))
			if d.below(3) == 0 {
				h.Disk().Sync()
				h.Crash(nil)
			}
		}
		for i, root := range roots {
			wantLoad(t, what, h.Disk(), root, models[i])
		}
		if slices.Sort(roots); len(slices.Compact(roots)) != 15 {
			t.Errorf("%s: the roots %v", what, roots)
		}
	}
}

// TestUsed: behind each Flush and a turn just those pages more are in use that Load tells, of several trees in one space, too (P16.10).
func TestUsed(t *testing.T) {
	d := dice(52)
	for what, size := range sizes() {
		h, s := disk(1500), spaced(t, 1500, 7, 8, 9, 1499)
		var trees [3]*tree.Tree
		var models [3]model
		var pages [3][]int
		for i := range trees {
			trees[i], models[i] = tree.New(), model{}
		}
		for range 30 {
			i := d.below(3)
			deletes := d.below(12)
			grow(t, &d, trees[i], models[i], d.below(10-deletes%10), size)
			for range d.below(80) {
				step(t, &d, trees[i], models[i], size, deletes)
			}
			root := wantFlush(t, what, trees[i], h.Disk(), s)
			_, now := wantLoad(t, what, h.Disk(), root, models[i])
			used, waits := s.Used()
			gone := without(pages[i], now)
			pages[i] = now
			want := slices.Sorted(slices.Values(slices.Concat([]int{0, 7, 8, 9, 1499}, slices.Concat(pages[:]...))))
			if !slices.Equal(used, want) || !slices.Equal(waits, gone) {
				t.Fatalf("%s: Used: %v, %v, want %v, %v", what, used, waits, want, gone)
			}
			s.Turn()
			wantUsed(t, what, s, want[1:], nil)
		}
	}
}

// keeps are some of the choices which of so many writes stay: all, none, each alone, each alone lost, any.
func (d *dice) keeps(writes int) [][]bool {
	l := [][]bool{nil, slices.Repeat([]bool{true}, writes)}
	for i := d.below(9); i < writes; i += 1 + d.below(40) {
		alone, lost := make([]bool, writes), slices.Repeat([]bool{true}, writes)
		alone[i], lost[i] = true, false
		l = append(l, alone, lost)
	}
	for range 3 {
		keep := make([]bool, writes)
		often := 1 + d.below(6)
		for i := range keep {
			keep[i] = d.below(often) > 0
		}
		l = append(l, keep)
	}
	return l
}

// trial is a tree that was flushed and synced, and what is done to it then.
type trial struct {
	h         *block.Hand
	x         *tree.Tree
	m         model
	root      int
	pages     []int
	s         *space.Space
	size      sizer
	seed      dice
	turned    bool
	olderRoot int
	older     model
}

// TestPower: wherever the power goes in a Flush, and whichever of its writes stay, the tree that was flushed ahead is loaded as it was; the new root tells the new tree, whole, or none (P16.8, P16.9).
func TestPower(t *testing.T) {
	d := dice(53)
	for _, what := range []string{"any", "halves", "long", "short", "two kinds"} {
		for _, turned := range []bool{false, true} {
			x := begun(t, &d, sizers()[what], turned)
			writes := x.writes(t)
			places := []int{0, 1, 7, 8, writes - 8, writes - 1, writes, writes + 1}
			for range 3 {
				places = append(places, d.below(writes))
			}
			for _, acts := range places {
				for _, done := range []bool{false, true} {
					waiting := min(acts, writes)
					if done {
						waiting = min(acts+1, writes)
					}
					for _, keep := range d.keeps(waiting) {
						x.lose(t, what, acts, done, waiting, keep)
					}
				}
			}
		}
	}
}

// begun is a trial; turned: pages on which older nodes lay are free again, so that the next Flush writes over them.
func begun(t *testing.T, d *dice, size sizer, turned bool) *trial {
	t.Helper()
	x := &trial{h: disk(100), s: spaced(t, 100), size: size, turned: turned}
	x.x, x.m = planted(t, d, 12, size)
	x.olderRoot = wantFlush(t, "older", x.x, x.h.Disk(), x.s)
	x.older = maps.Clone(x.m)
	for range 6 {
		step(t, d, x.x, x.m, size, 4)
	}
	put(t, x.x, x.m, "more", "")
	x.root = wantFlush(t, "ahead", x.x, x.h.Disk(), x.s)
	_, x.pages = wantLoad(t, "ahead", x.h.Disk(), x.root, x.m)
	x.h.Disk().Sync()
	if turned {
		x.s.Turn()
	}
	x.seed = dice(d.below(1 << 30))
	return x
}

// next is the tree with some changes, always the same ones.
func (x *trial) next(t *testing.T) (*tree.Tree, model) {
	t.Helper()
	d, y, m := x.seed, x.x.Clone(), maps.Clone(x.m)
	for range 4 {
		step(t, &d, y, m, x.size, 5)
	}
	put(t, y, m, "more", "than that")
	return y, m
}

// writes are how many the next Flush does.
func (x *trial) writes(t *testing.T) int {
	t.Helper()
	y, _ := x.next(t)
	before := x.h.Waiting()
	h := copied(x.h)
	wantFlush(t, "next", y, h.Disk(), x.s.Clone())
	return h.Waiting() - before
}

// lose is a loss of power in the next Flush.
func (x *trial) lose(t *testing.T, what string, acts int, done bool, waiting int, keep []bool) {
	t.Helper()
	y, m := x.next(t)
	h, s := copied(x.h), x.s.Clone()
	h.Arm(acts, done)
	root, err := y.Flush(h.Disk(), s)
	if h.Waiting() != waiting || err != nil && (root != 0 || api.Number(err) != api.ErrDown) {
		t.Fatalf("%s: %d acts, %v: %d writes wait; Flush: %d, %v", what, acts, done, h.Waiting(), root, err)
	}
	h.Crash(keep)
	_, pages := wantLoad(t, what+", ahead", h.Disk(), x.root, x.m)
	if !slices.Equal(pages, x.pages) {
		t.Errorf("%s: the pages %v, were %v", what, pages, x.pages)
	}
	if !x.turned {
		wantLoad(t, what+", older", h.Disk(), x.olderRoot, x.older)
	}
	if err == nil {
		x.wantOneOf(t, what, h, root, m, !slices.Contains(keep, false) && len(keep) == waiting)
	}
	if err != nil {
		wantAlike(t, what, s, x.s)
		root = wantFlush(t, what+", later", y, h.Disk(), s)
		wantLoad(t, what+", later", h.Disk(), root, m)
		wantLoad(t, what+", ahead of later", h.Disk(), x.root, x.m)
	}
}

// wantOneOf wants the root of the tree that was flushed last to tell that tree, or an older one whose root was there, or none: never some of one and some of another one.
func (x *trial) wantOneOf(t *testing.T, what string, h *block.Hand, root int, m model, all bool) {
	t.Helper()
	y, _, err := tree.Load(h.Disk(), root)
	switch {
	case err != nil && (all || api.Number(err) != api.ErrTree):
		t.Errorf("%s, the new one: %v", what, err)
	case err == nil && y.Len() == len(x.older) && y.Bytes() == x.older.bytes() && root == x.olderRoot && !all:
		wantStand(t, what+", the older one", y, x.older)
	case err == nil:
		wantStand(t, what+", the new one", y, m)
	}
}

// TestStale: once a turn was made, what older roots tell is the tree that was flushed to them, whole, or none: never some of one and some of another one (P16.8).
func TestStale(t *testing.T) {
	d := dice(54)
	for what, size := range sizes() {
		x, m := planted(t, &d, 20, size)
		h, s := disk(160), spaced(t, 160)
		last := map[int]model{}
		gone, whole := 0, 0
		for range 40 {
			for range 2 {
				step(t, &d, x, m, size, 5)
			}
			s.Turn()
			last[wantFlush(t, what, x, h.Disk(), s)] = maps.Clone(m)
			for number := 1; number < 160; number++ {
				y, _, err := tree.Load(h.Disk(), number)
				if err != nil {
					gone++
					continue
				}
				whole++
				wantAll(t, what, y, last[number], "", "", false)
			}
		}
		if gone == 0 || whole == 0 {
			t.Errorf("%s: %d, %d", what, gone, whole)
		}
	}
}
