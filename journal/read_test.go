package journal_test

import (
	"bytes"
	"slices"
	"testing"

	"coffret/api"
	"coffret/block"
	"coffret/journal"
)

// areas are areas of a disk of so many pages, at its edges.
func areas(pages int) [][2]int {
	return [][2]int{{0, 1}, {0, pages}, {pages - 1, 1}, {1, pages - 1}, {pages / 2, pages - pages/2}}
}

// noAreas are none, each by a little or by far, some of which would be one if their sum went round.
func noAreas(pages int) [][2]int {
	l := [][2]int{{0, pages + 1}, {1, pages}, {pages, 1}, {pages - 1, 2}, {pages, 0}, {-1, pages}, {-pages, pages}}
	for _, n := range []int{0, -1, -8, api.MinInt, api.MinInt + 1, api.MaxInt, api.MaxInt - 1, 1 << 60, 1<<60 + 1, 1<<61 + 1, 1 << 32} {
		l = append(l, [2]int{0, n}, [2]int{1, n}, [2]int{-n, n}, [2]int{n, -n})
	}
	for _, n := range []int{-1, -2, api.MinInt, api.MinInt + 1, api.MaxInt, 1 << 60, 1<<61 + 1, 1<<62 + 1, -1 << 61, 1 << 32} {
		l = append(l, [2]int{n, 1}, [2]int{n, pages})
	}
	return l
}

// TestReadAreas: each area that there is is read from its first sector on, and no sector ahead of it or behind it (P15.3).
func TestReadAreas(t *testing.T) {
	l := [][]byte{full(5), full(3000), full(1100), full(200)}
	for _, pages := range []int{2, 3, 17} {
		for more := range 8 {
			for _, a := range areas(pages) {
				h := filled(8*pages + more)
				plant(h, a[0]*8, laidOf(7, l...))
				want := l[:2]
				if a[1] > 1 {
					want = l
				}
				wantRead(t, "area", h.Disk(), a[0], a[1], 7, want...)
				wantRead(t, "another epoch", h.Disk(), a[0], a[1], 8)
			}
		}
	}
}

// TestReadWhole: a frame that goes on behind the area is not whole in it; one that ends with it is (P15.3).
func TestReadWhole(t *testing.T) {
	for n := 4000; n < 4040; n++ {
		h := block.New(80)
		plant(h, 16, laidOf(7, full(n), nil))
		var want [][]byte
		if n <= 4012 {
			want = append(want, full(n))
		}
		if n <= 3992 {
			want = append(want, nil)
		}
		wantRead(t, "one page", h.Disk(), 2, 1, 7, want...)
		wantRead(t, "two pages", h.Disk(), 2, 2, 7, full(n), nil)
	}
}

// TestNoRead: what is no epoch, no area, each beside what is one; it is told of a disk that is down, too (P15.3, W4).
func TestNoRead(t *testing.T) {
	for _, pages := range []int{1, 5, 17} {
		h := block.New(8*pages + 3)
		for range 2 {
			for _, a := range noAreas(pages) {
				wantNoRead(t, "no area", h.Disk(), a[0], a[1], 1, api.ErrArg)
				wantNoRead(t, "no area, no epoch", h.Disk(), a[0], a[1], 0, api.ErrArg)
			}
			for _, epoch := range noEpochs() {
				wantNoRead(t, "no epoch", h.Disk(), 0, pages, epoch, api.ErrArg)
			}
			h.Arm(0, false)
			h.Disk().Sync()
		}
		for _, epoch := range epochs() {
			wantNoRead(t, "down", h.Disk(), 0, pages, epoch, api.ErrDown)
			wantNoRead(t, "down", h.Disk(), pages-1, 1, epoch, api.ErrDown)
		}
		h.Crash(nil)
		wantRead(t, "up", h.Disk(), 0, pages, 1)
	}
	for n := -1; n < 8; n++ {
		wantNoRead(t, "no page", block.New(n).Disk(), 0, 1, 1, api.ErrArg)
		wantNoRead(t, "no page", block.New(n).Disk(), 0, 0, 1, api.ErrArg)
	}
}

// TestReadDown: a disk that is down is told, whatever stands there (P15.3).
func TestReadDown(t *testing.T) {
	h := block.New(40)
	plant(h, 16, laidOf(7, full(5)))
	wantRead(t, "up", h.Disk(), 2, 1, 7, full(5))
	h.Arm(0, true)
	h.Disk().Sync()
	for from := range 5 {
		wantNoRead(t, "down", h.Disk(), from, 1, 7, api.ErrDown)
	}
}

// TestReadAsScan: whatever stands in an area, it is told as Scan tells it (P15.3).
func TestReadAsScan(t *testing.T) {
	d := dice(3)
	for range 500 {
		many := 1 + d.below(3)
		epoch := d.epoch()
		var s []byte
		for i := range 1 + d.below(12) {
			b := d.record(3000)
			if d.below(12) == 0 {
				i++
			}
			s = behind(s, frameOf(epoch, i, b))
		}
		b := laid(uint64(epoch), s)
		if d.below(2) == 0 {
			b[d.below(len(b))] ^= 4
		}
		b = append(b, make([]byte, 3*4096)...)[:4096*many]
		h := filled(8 * 6)
		plant(h, 8, b)
		want, _ := journal.Scan(b, epoch)
		wantRead(t, "as Scan", h.Disk(), 1, many, epoch, want...)
	}
}

// TestReadIsNoAct: nothing waits behind it that did not, and the disk doesn't go down at it; what waits is read (P15.3).
func TestReadIsNoAct(t *testing.T) {
	h := filled(40)
	for i, x := range slices.Collect(slices.Chunk(laidOf(7, full(600)), 512)) {
		if err := h.Disk().Write(16+i, x); err != nil {
			t.Fatal(err)
		}
	}
	h.Arm(0, false)
	before := sectors(h, 0, 40)
	wantRead(t, "it waits", h.Disk(), 2, 1, 7, full(600))
	if h.Waiting() != 2 || h.Down() || !bytes.Equal(sectors(h, 0, 40), before) {
		t.Errorf("%d writes wait, down: %v", h.Waiting(), h.Down())
	}
	h.Crash([]bool{true})
	wantRead(t, "it did not stay", h.Disk(), 2, 1, 7)
}

// TestReadGreat: of an area of as many sectors as there can be just those are read that have the stamp (P15.3, W1).
func TestReadGreat(t *testing.T) {
	h := block.New(api.MaxInt)
	pages := api.MaxInt / 8
	for _, a := range areas(pages) {
		wantRead(t, "great", h.Disk(), a[0], a[1], 7)
		plant(h, a[0]*8, laidOf(7, full(3000), full(500)))
		wantRead(t, "great", h.Disk(), a[0], a[1], 7, full(3000), full(500))
		plant(h, a[0]*8, make([]byte, 512))
	}
	for _, a := range noAreas(pages) {
		if a[0] < 0 || a[1] < 1 || a[0] > pages-1 || a[1] > pages {
			wantNoRead(t, "greater", h.Disk(), a[0], a[1], 7, api.ErrArg)
		}
	}
	wantNoRead(t, "greater", h.Disk(), 1, pages, 7, api.ErrArg)
	wantNoRead(t, "greater", h.Disk(), pages, 1, 7, api.ErrArg)
}
