package super_test

import (
	"bytes"
	"testing"

	"coffret/api"
	"coffret/block"
)

// of is the example in another version.
func of(version int) api.Super {
	s := example
	s.Version = version
	return s
}

// TestWriteSectors: its page has its bytes, at its number; nine acts were carried out, all is safe, and nothing else has changed (P14.4).
func TestWriteSectors(t *testing.T) {
	ahead := bytes.Repeat([]byte{77}, api.SectorSize)
	for _, version := range versions() {
		h := block.New(8*20 + 3)
		for at := range 8*20 + 3 {
			h.Plant(at, ahead)
		}
		h.Arm(9, false)
		wantWrite(t, h.Disk(), of(version))
		if h.Waiting() != 0 || h.Down() {
			t.Errorf("version %d: %d writes wait, down: %v", version, h.Waiting(), h.Down())
		}
		wantNoWrite(t, h.Disk(), of(version), api.ErrDown)
		h.Crash(nil)
		place := version & 1
		if !bytes.Equal(sectors(h, 8*place, 8*place+8), saying(of(version))) {
			t.Errorf("version %d: its page has other bytes", version)
		}
		for at := range 8*20 + 3 {
			if at/8 != place && !bytes.Equal(h.Sector(at), ahead) {
				t.Errorf("version %d: sector %d has changed", version, at)
			}
		}
	}
}

// TestWriteEdges: the least and the greatest numbers that may be are read again; those of another disk's size are not written (P14.4, P14.5).
func TestWriteEdges(t *testing.T) {
	disks := map[int]*block.Hand{}
	for i, s := range rights() {
		if i%3 != 0 {
			continue
		}
		if disks[s.Pages] == nil {
			disks[s.Pages] = block.New(8*s.Pages + 7)
		}
		h := disks[s.Pages]
		plant(h, 1-s.Version&1, nothing())
		wantWrite(t, h.Disk(), s)
		wantRead(t, "edge", h.Disk(), s)
		wantNoWrite(t, block.New(8*s.Pages-1).Disk(), s, api.ErrArg)
		wantNoWrite(t, block.New(8*s.Pages+8).Disk(), s, api.ErrArg)
	}
}

// TestWriteSyncs: what waited ahead is safe, too; the writes come ahead of the sync, rising (P14.4).
func TestWriteSyncs(t *testing.T) {
	h := block.New(160)
	some := bytes.Repeat([]byte{5}, api.SectorSize)
	if err := h.Disk().Write(100, some); err != nil {
		t.Fatal(err)
	}
	wantWrite(t, h.Disk(), example)
	h.Crash(nil)
	wantRead(t, "safe", h.Disk(), example)
	if !bytes.Equal(h.Sector(100), some) {
		t.Error("what waited is not safe")
	}
	for i := range 8 {
		h := block.New(160)
		for at := range 160 {
			h.Plant(at, some)
		}
		h.Arm(8, false)
		wantNoWrite(t, h.Disk(), example, api.ErrDown)
		keep := make([]bool, 8)
		keep[i] = true
		h.Crash(keep)
		if !bytes.Equal(h.Sector(8+i), saying(example)[i*512:(i+1)*512]) {
			t.Errorf("the write %d is not that of the sector %d", i, i)
		}
	}
}

// TestWriteRefused: the first act that is refused ends it; what was carried out stays (P14.4).
func TestWriteRefused(t *testing.T) {
	for acts := range 9 {
		for _, done := range []bool{false, true} {
			h := planted(20, saying(of(4)), bytes.Repeat([]byte{7}, api.PageSize))
			h.Arm(acts, done)
			wantNoWrite(t, h.Disk(), of(5), api.ErrDown)
			many := acts
			if done {
				many++
			}
			want := bytes.Repeat([]byte{7}, api.PageSize)
			copy(want, saying(of(5))[:min(many, 8)*512])
			if !h.Down() || !bytes.Equal(sectors(h, 8, 16), want) {
				t.Errorf("%d acts, %v: other bytes, down: %v", acts, done, h.Down())
			}
			if many == 9 {
				many = 0
			}
			if h.Waiting() != many {
				t.Errorf("%d acts, %v: %d writes wait", acts, done, h.Waiting())
			}
			wantNoRead(t, "down", h.Disk(), api.ErrDown)
			wantNoWrite(t, h.Disk(), of(6), api.ErrDown)
		}
	}
}

// TestNoWrite: what may not be, and what is of another disk's size: nothing is written, no act is tried; it is told of a disk that is down, too (P14.4, W4).
func TestNoWrite(t *testing.T) {
	h := block.New(160)
	for range 2 {
		for _, s := range wrongs() {
			wantNoWrite(t, h.Disk(), s, api.ErrArg)
		}
		for pages := api.MinPages; pages < 300; pages++ {
			s := example
			s.Pages = pages
			if pages != 20 {
				wantNoWrite(t, h.Disk(), s, api.ErrArg)
			}
		}
		wantNoWrite(t, h.Disk(), api.Super{Version: 3, Root: 9, Epoch: 2, Pages: api.MaxPages}, api.ErrArg)
		if h.Waiting() != 0 || h.Down() || !bytes.Equal(sectors(h, 0, 160), make([]byte, 160*512)) {
			t.Errorf("%d writes wait, down: %v", h.Waiting(), h.Down())
		}
		h.Arm(0, false)
	}
	wantNoWrite(t, h.Disk(), example, api.ErrDown)
	wantNoWrite(t, h.Disk(), of(0), api.ErrArg)
}

// TestNoWriteSize: disks whose own number of pages no superblock may tell (P14.4).
func TestNoWriteSize(t *testing.T) {
	for _, n := range []int{-1, 0, 7, 8, 16, 120, 127, 8*api.MaxPages + 8, 8*api.MaxPages + 160, api.MaxInt} {
		h := block.New(n)
		s := example
		for _, s.Pages = range []int{0, 1, 2, 15, 16, 20, api.MaxPages, api.MaxPages + 1, api.MaxPages + 20, h.Disk().Sectors() / 8} {
			wantNoWrite(t, h.Disk(), s, api.ErrArg)
		}
		if h.Waiting() != 0 {
			t.Errorf("%d sectors: %d writes wait", n, h.Waiting())
		}
	}
}

// TestReadSmall: disks of fewer pages than there have to be, whatever stands there, those that are down, too (P14.5, W4).
func TestReadSmall(t *testing.T) {
	for n := -1; n < 8*api.MinPages; n++ {
		h := block.New(n)
		s := example
		s.Pages, s.Root = n/8, 0
		plant(h, 0, nothing())
		plant(h, 1, saying(s))
		wantNoRead(t, "small", h.Disk(), api.ErrSuper)
		s.Pages = api.MinPages
		plant(h, 1, saying(s))
		wantNoRead(t, "small", h.Disk(), api.ErrSuper)
		h.Arm(0, false)
		h.Disk().Sync()
		if !h.Down() {
			t.Fatal("not down")
		}
		wantNoRead(t, "small and down", h.Disk(), api.ErrSuper)
	}
}

// TestReadDown: of a disk that is down, whatever stands there (P14.5, W4).
func TestReadDown(t *testing.T) {
	for _, h := range []*block.Hand{block.New(128), block.New(160), planted(20, saying(of(2)), saying(example)), planted(21, nothing(), saying(example))} {
		h.Arm(0, false)
		h.Disk().Sync()
		wantNoRead(t, "down", h.Disk(), api.ErrDown)
	}
}

// TestReadAsChoose: whatever stands on the first two pages, it is told as Choose tells it (P14.5).
func TestReadAsChoose(t *testing.T) {
	wantNoRead(t, "nothing", block.New(160).Disk(), api.ErrSuper)
	for _, version := range []int{2, 4, 1 << 32, api.MaxVersion} {
		even, odd := of(version), of(version-1)
		wantRead(t, "the first", planted(20, saying(even), saying(odd)).Disk(), even)
		if version < api.MaxVersion {
			wantRead(t, "the second", planted(20, saying(even), saying(of(version+1))).Disk(), of(version+1))
		}
		wantNoRead(t, "turned", planted(20, saying(odd), saying(even)).Disk(), api.ErrSuper)
		for _, b := range refused(1) {
			if len(b) == api.PageSize {
				wantRead(t, "the first alone", planted(20, saying(even), b).Disk(), even)
			}
		}
		for _, a := range refused(0) {
			if len(a) == api.PageSize {
				wantRead(t, "the second alone", planted(20, a, saying(odd)).Disk(), odd)
			}
		}
	}
	for _, a := range refused(0) {
		for _, b := range refused(1) {
			if len(a) == api.PageSize && len(b) == api.PageSize {
				wantNoRead(t, "neither", planted(20, a, b).Disk(), api.ErrSuper)
			}
		}
	}
}

// TestReadElsewhere: superblocks that lie on other pages are none (P14.5).
func TestReadElsewhere(t *testing.T) {
	h := block.New(160)
	for number := 2; number < 20; number++ {
		plant(h, number, saying(of(number+1)))
	}
	wantNoRead(t, "elsewhere", h.Disk(), api.ErrSuper)
	plant(h, 0, saying(of(2)))
	wantRead(t, "the first", h.Disk(), of(2))
	plant(h, 1, saying(of(3)))
	wantRead(t, "the second", h.Disk(), of(3))
}

// TestReadPages: one of another disk's size is refused, also where the older one is of this disk's size; that the older one is not, is nothing (P14.5).
func TestReadPages(t *testing.T) {
	for _, pages := range []int{16, 19, 21, 22, 40, 20 + 256, api.MaxPages} {
		elsewhere := example
		elsewhere.Pages = pages
		wantNoRead(t, "alone", planted(20, nothing(), saying(elsewhere)).Disk(), api.ErrSuper)
		wantNoRead(t, "the newer", planted(20, saying(of(2)), saying(elsewhere)).Disk(), api.ErrSuper)
		wantRead(t, "the older", planted(20, saying(of(4)), saying(elsewhere)).Disk(), of(4))
	}
	for more := range 8 {
		h := block.New(160 + more)
		plant(h, 1, saying(example))
		wantRead(t, "some sectors more", h.Disk(), example)
	}
	for _, n := range []int{8*api.MaxPages + 8, 8*api.MaxPages + 160, api.MaxInt} {
		h := block.New(n)
		s := example
		for _, s.Pages = range []int{20, api.MaxPages, n / 8} {
			plant(h, 1, saying(s))
			wantNoRead(t, "too many pages", h.Disk(), api.ErrSuper)
		}
	}
	for _, pages := range []int{api.MinPages, api.MaxPages} {
		s := example
		s.Pages = pages
		wantRead(t, "edge", planted(pages, nothing(), saying(s)).Disk(), s)
	}
}

// TestReadIsNoAct: nothing waits behind it that did not, and the disk doesn't go down at it; what waits is read (P14.5).
func TestReadIsNoAct(t *testing.T) {
	h := block.New(160)
	wantWrite(t, h.Disk(), of(4))
	h.Arm(8, false)
	wantNoWrite(t, h.Disk(), of(5), api.ErrDown)
	h.Crash([]bool{true})
	for i := range 8 {
		if err := h.Disk().Write(i, saying(of(6))[i*512:(i+1)*512]); err != nil {
			t.Fatal(err)
		}
	}
	h.Arm(0, false)
	before := sectors(h, 0, 160)
	wantRead(t, "it waits", h.Disk(), of(6))
	if h.Waiting() != 8 || h.Down() || !bytes.Equal(sectors(h, 0, 160), before) {
		t.Errorf("%d writes wait, down: %v", h.Waiting(), h.Down())
	}
	h.Crash(nil)
	wantRead(t, "it did not stay", h.Disk(), of(5))
}
