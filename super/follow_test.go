package super_test

import (
	"bytes"
	"testing"

	"coffret/api"
	"coffret/block"
	"coffret/super"
)

// TestThereAndBack: Open takes what Make made, under its own number and no other one (P14.6).
func TestThereAndBack(t *testing.T) {
	d := dice(3)
	for range 5000 {
		s := d.super()
		b, e := super.Make(s)
		if e != api.OK {
			t.Fatalf("Make(%v): %v", s, e)
		}
		wantOpen(t, "made", b, s.Version&1, s)
		wantNoOpen(t, "made", b, s.Version&1^1, api.ErrPagePlace)
	}
	for _, s := range rights() {
		b, _ := super.Make(s)
		wantOpen(t, "edge", b, s.Version&1, s)
	}
}

// TestBackAndThere: of bytes that are a superblock's page, or nearly one, those that Open takes are what Make makes of what it tells (P14.6).
func TestBackAndThere(t *testing.T) {
	d := dice(4)
	opened, not := 0, 0
	for range 20000 {
		b := saying(d.super())
		number := int(b[4])
		if at := 8 + d.below(60); at < 47 && d.below(2) == 0 {
			b[at] ^= 1 << d.below(8)
			b = summed(b)
		}
		s, e := super.Open(b, number)
		if e != api.OK {
			not++
			continue
		}
		opened++
		if again, e := super.Make(s); !bytes.Equal(again, b) || e != api.OK {
			t.Errorf("Make(%v): other bytes, %v", s, e)
		}
	}
	if opened < 5000 || not < 2000 {
		t.Errorf("too few: %d, %d", opened, not)
	}
}

// TestWrittenLast: versions that follow one another are told as they were written last, through losses of power behind them (P14.4, P14.5).
func TestWrittenLast(t *testing.T) {
	d := dice(5)
	h := block.New(8 * 100)
	s := api.Super{Version: 1, Pages: 100}
	for range 500 {
		s.Version++
		s.Root, s.Epoch = d.below(100), d.version()
		wantWrite(t, h.Disk(), s)
		if d.below(3) == 0 {
			h.Crash(nil)
		}
		wantRead(t, "last", h.Disk(), s)
	}
}

// before are disks of 20 pages on which a superblock of that version holds, whatever stands on the other one's page.
func before(version int) map[string]*block.Hand {
	disks := map[string]*block.Hand{}
	garbage := bytes.Repeat([]byte{255}, api.PageSize)
	behind := other(nothing(), 512, 1)
	torn := saying(of(version + 1))
	copy(torn, saying(of(max(version-1, 1)))[:30])
	for what, b := range map[string][]byte{"nothing": nothing(), "garbage": garbage, "a byte behind": behind, "torn": torn, "the older": saying(of(version - 1))} {
		h := block.New(160)
		plant(h, version&1, saying(of(version)))
		plant(h, version&1^1, b)
		disks[what] = h
	}
	return disks
}

// alike is a disk of 20 pages whose first two are as those of another one.
func alike(h *block.Hand) *block.Hand {
	return planted(20, sectors(h, 0, 8), sectors(h, 8, 16))
}

// newer is what a write of the next version says: all its numbers are other ones.
func newer(version int) api.Super {
	return api.Super{Version: version + 1, Root: 19, Epoch: api.MaxVersion, Pages: 20}
}

// crashes goes through all ways in which the power goes in a write of the version that follows: tell is called of each, with how many acts were carried out, and which writes stay.
func crashes(t *testing.T, from *block.Hand, version int, tell func(h *block.Hand, acts, mask int)) {
	for acts := range 10 {
		for _, done := range []bool{false, true} {
			waiting := acts
			if done {
				waiting++
			}
			if waiting >= 9 {
				waiting = 0
			}
			for mask := range 1 << waiting {
				h := alike(from)
				h.Arm(acts, done)
				if err := super.Write(h.Disk(), newer(version)); (err == nil) != (acts == 9) {
					t.Fatalf("%d acts, %v: Write: %v", acts, done, err)
				}
				if h.Waiting() != waiting {
					t.Fatalf("%d acts, %v: %d writes wait", acts, done, h.Waiting())
				}
				keep := make([]bool, waiting)
				for i := range keep {
					keep[i] = mask>>i&1 == 1
				}
				h.Crash(keep)
				all := acts
				if done {
					all++
				}
				tell(h, all, mask)
			}
		}
	}
}

// TestPower: wherever the power goes in a write of the next version, and whichever of its writes stay, the old one or the new one is told, and can be written behind (P14.7).
func TestPower(t *testing.T) {
	for _, version := range []int{1, 2, 3, api.MaxVersion - 1} {
		for what, from := range before(version) {
			crashes(t, from, version, func(h *block.Hand, acts, mask int) {
				s, err := super.Read(h.Disk())
				if err != nil || s != of(version) && s != newer(version) {
					t.Errorf("%s, version %d, %d acts, mask %d: %v, %v", what, version, acts, mask, s, err)
				}
				if acts >= 9 && s != newer(version) {
					t.Errorf("%s, version %d, %d acts, mask %d: synced, but %v", what, version, acts, mask, s)
				}
				if s.Version < api.MaxVersion {
					s.Version++
					wantWrite(t, h.Disk(), s)
					wantRead(t, "behind", h.Disk(), s)
				}
			})
		}
	}
}

// TestPowerOneSector: over an older superblock, or nothing, the new one is told if and only if its page's first sector stayed (P14.7).
func TestPowerOneSector(t *testing.T) {
	for _, version := range []int{2, 3} {
		for _, what := range []string{"nothing", "the older", "torn"} {
			crashes(t, before(version)[what], version, func(h *block.Hand, acts, mask int) {
				want := of(version)
				if acts >= 9 || mask&1 == 1 {
					want = newer(version)
				}
				wantRead(t, what, h.Disk(), want)
			})
		}
	}
}
