package journal_test

import (
	"bytes"
	"testing"

	"coffret/api"
	"coffret/block"
	"coffret/journal"
)

// TestJournalExamples are the chapter's (P15.4, P15.5, P15.7).
func TestJournalExamples(t *testing.T) {
	h := block.New(40)
	j := begun(t, h.Disk(), 2, 1, 1)
	if j.Room() != 4012 {
		t.Errorf("New: Room %d", j.Room())
	}
	add := func(b []byte, writes, bytes, room int) {
		t.Helper()
		before := h.Waiting()
		wantAppend(t, j, b)
		if h.Waiting()-before != writes || j.Bytes() != bytes || j.Room() != room {
			t.Errorf("Append of %d bytes: %d writes, %d, %d", len(b), h.Waiting()-before, j.Bytes(), j.Room())
		}
	}
	add([]byte{7, 8}, 1, 22, 3990)
	if want := append(laidOf(1, []byte{7, 8}), make([]byte, 23*512)...); !bytes.Equal(sectors(h, 16, 40), want) {
		t.Error("Append: other bytes")
	}
	add(full(450), 1, 492, 3508)
	wantNoAppend(t, "too long", j, full(3509), api.ErrJournalFull)
	add(full(3508), 7, 4032, -20)
}

// TestNewAreas: of each area that there is a journal is had, without records, whatever stands there, of a disk that is down, too; no act is done (P15.4, P15.7).
func TestNewAreas(t *testing.T) {
	for _, pages := range []int{2, 3, 17, 100} {
		for more := range 8 {
			h := filled(8*pages + more)
			plant(h, 0, laidOf(1, full(5), full(3000)))
			before := sectors(h, 0, 8*pages+more)
			h.Arm(0, true)
			for _, a := range areas(pages) {
				for _, epoch := range epochs() {
					wantStand(t, "new", begun(t, h.Disk(), a[0], a[1], epoch), a[1])
				}
			}
			if h.Waiting() != 0 || h.Down() || !bytes.Equal(sectors(h, 0, 8*pages+more), before) {
				t.Errorf("%d pages: %d writes wait, down: %v", pages, h.Waiting(), h.Down())
			}
			h.Disk().Sync()
			wantStand(t, "down", begun(t, h.Disk(), 1, 1, 1), 1)
		}
	}
}

// TestNoNew: what is no epoch, no area, of a disk that is down, too (P15.4).
func TestNoNew(t *testing.T) {
	for _, pages := range []int{1, 5, 17} {
		h := block.New(8*pages + 3)
		for range 2 {
			for _, a := range noAreas(pages) {
				wantNoNew(t, h.Disk(), a[0], a[1], 1)
				wantNoNew(t, h.Disk(), a[0], a[1], 0)
			}
			for _, epoch := range noEpochs() {
				wantNoNew(t, h.Disk(), 0, pages, epoch)
				wantNoNew(t, h.Disk(), 0, 0, epoch)
			}
			h.Arm(0, false)
			h.Disk().Sync()
		}
	}
	for n := -1; n < 8; n++ {
		wantNoNew(t, block.New(n).Disk(), 0, 1, 1)
		wantNoNew(t, block.New(n).Disk(), 0, 0, 1)
	}
}

// TestAppendSectors: behind each Append the area's sectors are those of the records, as many as have a byte of one; so many writes wait more as the last one's frame has a byte in; nothing else has changed (P15.5, P15.7).
func TestAppendSectors(t *testing.T) {
	d := dice(4)
	for range 300 {
		from, many, epoch := d.below(3), 1+d.below(3), d.epoch()
		h := filled(8 * 6)
		j := begun(t, h.Disk(), from, many, epoch)
		var l [][]byte
		for {
			b := d.record(2000)
			if len(b) > j.Room() {
				break
			}
			l = append(l, b)
			end := len(streamOf(epoch, l...))
			writes := (end-1)/part - (end-len(b)-20)/part + 1
			before := h.Waiting()
			wantAppend(t, j, b)
			if h.Waiting()-before != writes {
				t.Errorf("%d writes, want %d", h.Waiting()-before, writes)
			}
			wantStand(t, "appended", j, many, l...)
			want := filled(8 * 6)
			plant(want, 8*from, laidOf(epoch, l...))
			if !bytes.Equal(sectors(h, 0, 48), sectors(want, 0, 48)) {
				t.Fatalf("%d records: other bytes", len(l))
			}
		}
	}
}

// TestAppendSizes: a record of each length behind one of each length, at all edges of a sector (P15.5, P15.7).
func TestAppendSizes(t *testing.T) {
	for first := part - 62; first < part+2; first++ {
		for _, second := range []int{0, 1, 20, 463, 464, 465, 483, 484, 485, 504, 988} {
			h := filled(24)
			j := begun(t, h.Disk(), 1, 2, 9)
			l := [][]byte{full(first), full(second), {6}}
			for i, b := range l {
				wantAppend(t, j, b)
				wantStand(t, "sizes", j, 2, l[:i+1]...)
			}
			want := filled(24)
			plant(want, 8, laidOf(9, l...))
			if !bytes.Equal(sectors(h, 0, 24), sectors(want, 0, 24)) {
				t.Errorf("%d, %d: other bytes", first, second)
			}
			wantRead(t, "sizes", h.Disk(), 1, 2, 9, l...)
		}
	}
}

// TestAppendRising: of the writes of a frame each one is of the next sector, and has all that stands there by then (P15.5).
func TestAppendRising(t *testing.T) {
	l := [][]byte{full(700), full(1500)}
	want := laidOf(9, l...)
	for i := range 4 {
		h := filled(40)
		j := begun(t, h.Disk(), 2, 1, 9)
		wantAppend(t, j, l[0])
		wantSync(t, j)
		before := sectors(h, 0, 40)
		wantAppend(t, j, l[1])
		if h.Waiting() != 4 {
			t.Fatalf("%d writes", h.Waiting())
		}
		keep := make([]bool, 4)
		keep[i] = true
		h.Crash(keep)
		copy(before[(17+i)*512:], want[(1+i)*512:(2+i)*512])
		if !bytes.Equal(sectors(h, 0, 40), before) {
			t.Errorf("the write %d is not that of the sector %d", i, 17+i)
		}
	}
}

// TestAppendOwn: what is written ahead of a frame is what the journal appended, whatever stands in the sector meanwhile (P15.5).
func TestAppendOwn(t *testing.T) {
	h := filled(16)
	j := begun(t, h.Disk(), 0, 1, 9)
	wantAppend(t, j, full(100))
	h.Plant(0, full(512))
	wantAppend(t, j, full(50))
	if !bytes.Equal(sectors(h, 0, 1), laidOf(9, full(100), full(50))) {
		t.Error("other bytes")
	}
	h.Crash(nil)
	wantAppend(t, j, full(40))
	if !bytes.Equal(sectors(h, 0, 1), laidOf(9, full(100), full(50), full(40))) {
		t.Error("other bytes behind a loss of power")
	}
}

// TestAppendFull: what has more bytes than there is room for is refused, and nothing has changed; no act is done, of a disk that is down, too (P15.5, P15.7, W3).
func TestAppendFull(t *testing.T) {
	for _, first := range []int{0, 100, 3900, 3968, 3972, 3973, 3990, 3991, 3992, 3993, 4000, 4011, 4012} {
		h := filled(24)
		j := begun(t, h.Disk(), 1, 1, 9)
		wantNoAppend(t, "new", j, full(4013), api.ErrJournalFull)
		wantAppend(t, j, full(first))
		before, waiting, room := sectors(h, 0, 24), h.Waiting(), j.Room()
		h.Arm(0, true)
		for _, n := range []int{max(room+1, 0), max(room+2, 0), 4012, 4013, 70000} {
			if n > room {
				wantNoAppend(t, "full", j, full(n), api.ErrJournalFull)
			}
		}
		wantStand(t, "full", j, 1, full(first))
		if h.Waiting() != waiting || h.Down() || !bytes.Equal(sectors(h, 0, 24), before) {
			t.Errorf("%d: %d writes wait, down: %v", first, h.Waiting(), h.Down())
		}
		h.Arm(100, true)
		if room >= 0 {
			wantAppend(t, j, full(room))
			wantStand(t, "full", j, 1, full(first), full(room))
			wantRead(t, "full", h.Disk(), 1, 1, 9, full(first), full(room))
		}
		wantNoAppend(t, "full", j, nil, api.ErrJournalFull)
		wantSync(t, j)
	}
	h := block.New(16)
	j := begun(t, h.Disk(), 0, 2, 9)
	h.Arm(0, false)
	h.Disk().Sync()
	wantNoAppend(t, "down", j, full(8045), api.ErrJournalFull)
	wantNoAppend(t, "down", j, full(8044), api.ErrDown)
}

// TestAppendRefused: at each act of a row of them; what was carried out stays, no further act is done, and the journal is dead (P15.5, P15.6, P15.7).
func TestAppendRefused(t *testing.T) {
	l := [][]byte{full(700), full(1500), full(10)}
	one, two, three := laidOf(9, l[0]), laidOf(9, l[:2]...), laidOf(9, l...)
	writes := []struct {
		of, at int
		b      []byte
	}{{0, 0, one}, {0, 1, one}, {1, 1, two}, {1, 2, two}, {1, 3, two}, {1, 4, two}, {2, 4, three}}
	for acts, x := range writes {
		for _, done := range []bool{false, true} {
			h := filled(40)
			j := begun(t, h.Disk(), 2, 1, 9)
			h.Arm(acts, done)
			for _, b := range l[:x.of] {
				wantAppend(t, j, b)
			}
			wantNoAppend(t, "refused", j, l[x.of], api.ErrDown)
			many := acts
			if done {
				many++
			}
			if h.Waiting() != many || !h.Down() {
				t.Errorf("%d acts, %v: %d writes wait, down: %v", acts, done, h.Waiting(), h.Down())
			}
			wantDead(t, h, j, l[:x.of])
			want := filled(40)
			for _, w := range writes[:many] {
				want.Plant(16+w.at, w.b[w.at*512:(w.at+1)*512])
			}
			if !bytes.Equal(sectors(h, 0, 40), sectors(want, 0, 40)) {
				t.Errorf("%d acts, %v: other bytes", acts, done)
			}
		}
	}
}

// wantDead asks all of a dead journal of the page 2, which has these records, then once more with the power back, where all that waited stays: no act is done.
func wantDead(t *testing.T, h *block.Hand, j *journal.Journal, l [][]byte) {
	t.Helper()
	ask := func() {
		t.Helper()
		waiting := h.Waiting()
		for _, b := range [][]byte{nil, {5}, full(4013), full(70000)} {
			wantNoAppend(t, "dead", j, b, api.ErrJournalDead)
		}
		wantNoSync(t, "dead", j, api.ErrJournalDead)
		wantStand(t, "dead", j, 1, l...)
		if h.Waiting() != waiting {
			t.Errorf("dead: %d writes wait, %d did", h.Waiting(), waiting)
		}
	}
	ask()
	h.Crash(keeping(h.Waiting(), -1))
	h.Arm(0, true)
	ask()
	if h.Down() {
		t.Error("dead, but an act was done")
	}
	h.Crash(nil)
}

// TestSync: it makes all safe that waits, also what others wrote, as often as it is called (P15.6).
func TestSync(t *testing.T) {
	h := filled(40)
	j := begun(t, h.Disk(), 2, 1, 9)
	wantSync(t, j)
	if err := h.Disk().Write(39, full(512)); err != nil {
		t.Fatal(err)
	}
	for i := range 20 {
		wantAppend(t, j, full(i*10))
		if i%3 == 0 {
			h.Arm(1, false)
			wantSync(t, j)
			if h.Waiting() != 0 {
				t.Errorf("%d writes wait", h.Waiting())
			}
			h.Arm(100, false)
		}
	}
	wantSync(t, j)
	before := sectors(h, 0, 40)
	h.Crash(nil)
	if !bytes.Equal(sectors(h, 0, 40), before) || !bytes.Equal(h.Sector(39), full(512)) {
		t.Error("not all is safe")
	}
	if j.Records() != 20 {
		t.Errorf("%d records", j.Records())
	}
}

// TestSyncRefused: whether it was carried out or not the journal is dead; nothing is counted less (P15.6, P15.7).
func TestSyncRefused(t *testing.T) {
	for _, done := range []bool{false, true} {
		for many := range 3 {
			h := filled(40)
			j := begun(t, h.Disk(), 2, 1, 9)
			l := [][]byte{full(5), full(600)}[:many]
			for _, b := range l {
				wantAppend(t, j, b)
			}
			before, waiting := sectors(h, 0, 40), h.Waiting()
			if done {
				waiting = 0
			}
			h.Arm(0, done)
			wantNoSync(t, "refused", j, api.ErrDown)
			if h.Waiting() != waiting || !h.Down() {
				t.Errorf("%v: %d writes wait, down: %v", done, h.Waiting(), h.Down())
			}
			wantDead(t, h, j, l)
			if !bytes.Equal(sectors(h, 0, 40), before) {
				t.Errorf("%v: other bytes", done)
			}
		}
	}
}

// TestDown: a journal of a disk that went down at another one's act is not dead ahead of its own next act (P15.5, P15.6).
func TestDown(t *testing.T) {
	for i := range 3 {
		h := filled(40)
		j := begun(t, h.Disk(), 2, 1, 9)
		h.Arm(0, false)
		h.Disk().Sync()
		switch i {
		case 0:
			wantNoAppend(t, "down", j, nil, api.ErrDown)
			wantDead(t, h, j, nil)
		case 1:
			wantNoSync(t, "down", j, api.ErrDown)
			wantDead(t, h, j, nil)
		case 2:
			h.Crash(nil)
			wantAppend(t, j, full(5))
			wantSync(t, j)
		}
	}
}

// TestEachItsOwn: that one journal is dead is nothing to another one (P15.5).
func TestEachItsOwn(t *testing.T) {
	h := filled(48)
	j, k := begun(t, h.Disk(), 2, 1, 9), begun(t, h.Disk(), 4, 2, 9)
	wantAppend(t, j, full(5))
	wantAppend(t, k, full(6))
	h.Arm(0, false)
	wantNoAppend(t, "down", j, full(7), api.ErrDown)
	h.Crash([]bool{true, true})
	wantAppend(t, k, full(8))
	wantSync(t, k)
	wantDead(t, h, j, [][]byte{full(5)})
	wantRead(t, "dead", h.Disk(), 2, 1, 9, full(5))
	wantRead(t, "alive", h.Disk(), 4, 2, 9, full(6), full(8))
}

// TestGreat: of an area whose stream has more bytes than a number tells the room is not told as none (P15.4, P15.7, W7).
func TestGreat(t *testing.T) {
	h := block.New(api.MaxInt)
	for _, many := range []int{1 << 50, api.MaxInt / 4032, api.MaxInt/4032 + 1, api.MaxInt / 8} {
		j := begun(t, h.Disk(), 0, many, 9)
		want := api.MaxInt/4032*4032 - 20
		if many == 1<<50 {
			want = 1<<50*4032 - 20
		}
		if j.Room() != want {
			t.Errorf("%d pages: Room %d, want %d", many, j.Room(), want)
		}
		wantAppend(t, j, full(600))
		wantRead(t, "great", h.Disk(), 0, many, 9, full(600))
	}
}

// TestAppendLong: what is no record is none where there would be room for it either; nothing has changed (P15.1, P15.5).
func TestAppendLong(t *testing.T) {
	h := block.New(8 * 70000)
	j := begun(t, h.Disk(), 0, 70000, 9)
	b := full(longest + 1)
	wantNoAppend(t, "too long", j, b, api.ErrLong)
	wantNoAppend(t, "too long, and full", begun(t, h.Disk(), 0, 1, 9), b, api.ErrJournalFull)
	wantStand(t, "too long", j, 70000)
	if h.Waiting() != 0 {
		t.Errorf("%d writes wait", h.Waiting())
	}
	wantAppend(t, j, full(5))
	wantSync(t, j)
	wantRead(t, "behind", h.Disk(), 0, 70000, 9, full(5))
}
