package page_test

import (
	"bytes"
	"testing"

	"coffret/api"
	"coffret/block"
	"coffret/page"
)

// TestThereAndBack: Open takes what Make made, under its own number and no other one (P12.5).
func TestThereAndBack(t *testing.T) {
	d := dice(2)
	for range 5000 {
		number, kind, body := d.number(), d.kind(), d.body()
		b, e := page.Make(number, kind, body)
		if e != api.OK {
			t.Fatalf("Make(%d, %d, %d bytes): %v", number, kind, len(body), e)
		}
		wantOpen(t, "made", b, number, kind, body)
		for range 3 {
			if n := d.number(); n != number {
				wantNoOpen(t, "another number", b, n, api.ErrPagePlace)
			}
		}
		wantNoOpen(t, "a bit of the number", b, number^1<<d.below(64), api.ErrPagePlace)
	}
}

// TestNoOtherNumber: of all that there are (P12.5).
func TestNoOtherNumber(t *testing.T) {
	b, _ := page.Make(300, 2, []byte{7, 8})
	for number := range api.MaxPages {
		if number != 300 {
			wantNoOpen(t, "another number", b, number, api.ErrPagePlace)
		}
	}
}

// TestBackAndThere: of bytes that are a page, or nearly one, those that Open takes are what Make makes of what it tells (P12.5).
func TestBackAndThere(t *testing.T) {
	d := dice(3)
	opened, not := 0, 0
	for range 10000 {
		number, body := d.number(), d.body()
		b := written(uint32(number), byte(d.below(6)), len(body), body...)
		if d.below(3) == 0 {
			at := 8 + d.below(api.PageSize-8)
			if d.below(2) == 0 {
				at = 8 + d.below(3)
			}
			b[at] = byte(d.below(256))
			b = summed(b)
		}
		kind, x, e := page.Open(b, number)
		if e != api.OK {
			not++
			continue
		}
		opened++
		again, e := page.Make(number, kind, x)
		if !bytes.Equal(again, b) || e != api.OK {
			t.Errorf("Make(%d, %d, %d bytes): other bytes, %v", number, kind, len(x), e)
		}
	}
	if opened < 2000 || not < 2000 {
		t.Errorf("too few: %d, %d", opened, not)
	}
}

// TestOtherBytes: up to four neighbouring bytes that are other ones, of the sum or of what follows it, at every place (P12.6).
func TestOtherBytes(t *testing.T) {
	d := dice(4)
	full := bytes.Repeat([]byte{255}, api.MaxBody)
	for _, b := range [][]byte{written(3, 2, 2, 7, 8), written(3, 255, api.MaxBody, full...), written(3, 1, 1000, d.body()...)} {
		for at := range api.PageSize {
			room := api.PageSize - at
			if at < 4 {
				room = 4 - at
			}
			for many := 1; many <= min(4, room); many++ {
				turned := bytes.Clone(b)
				for i := range many {
					turned[at+i] = byte(d.below(256))
				}
				surely := at + d.below(many)
				turned[surely] = b[surely] ^ byte(1+d.below(255))
				wantNoOpen(t, "other bytes", turned, 3, api.ErrPageSum)
			}
		}
	}
}

// TestEachOtherByte: every byte of what stands ahead of a body, turned into every other one (P12.6).
func TestEachOtherByte(t *testing.T) {
	b := written(3, 2, 2, 7, 8)
	h := block.New(32)
	for at := range 16 {
		for by := 1; by < 256; by++ {
			turned := other(b, at, byte(by))
			wantNoOpen(t, "a byte", turned, 3, api.ErrPageSum)
			plant(h, 3, turned)
			wantNoRead(t, "a byte", h.Disk(), 3, api.ErrPageSum)
		}
	}
}

// kept is what a page was written with.
type kept struct {
	kind int
	body []byte
}

// TestWrittenLast: pages are read as they were written last, synced or not, whatever was written to others (P12.7).
func TestWrittenLast(t *testing.T) {
	d := dice(5)
	const many = 12
	h := block.New(8 * many)
	disk := h.Disk()
	var last [many]kept
	for range 1000 {
		number := d.below(many)
		last[number] = kept{d.kind(), d.body()}
		wantWrite(t, disk, number, last[number].kind, last[number].body)
		if d.below(10) == 0 {
			if err := disk.Sync(); err != nil {
				t.Fatal(err)
			}
		}
		if d.below(10) == 0 {
			disk = h.Disk()
		}
		for number, x := range last {
			if x.kind == 0 {
				wantNoRead(t, "not yet", disk, number, api.ErrPageSum)
			} else {
				wantRead(t, "last", disk, number, x.kind, x.body)
			}
		}
	}
}

// TestTorn: of a page that was written over another one not all sectors stay: it is as it was, as it became, or refused (P12.4, P12.7).
func TestTorn(t *testing.T) {
	before, behind := bytes.Repeat([]byte{4}, api.MaxBody), bytes.Repeat([]byte{5}, api.MaxBody)
	for mask := range 256 {
		h := block.New(32)
		wantWrite(t, h.Disk(), 2, 9, before)
		if err := h.Disk().Sync(); err != nil {
			t.Fatal(err)
		}
		wantWrite(t, h.Disk(), 2, 10, behind)
		wantRead(t, "not synced", h.Disk(), 2, 10, behind)
		keep := make([]bool, 8)
		for i := range keep {
			keep[i] = mask>>i&1 == 1
		}
		h.Crash(keep)
		switch mask {
		case 0:
			wantRead(t, "none stayed", h.Disk(), 2, 9, before)
		case 255:
			wantRead(t, "all stayed", h.Disk(), 2, 10, behind)
		default:
			wantNoRead(t, "some stayed", h.Disk(), 2, api.ErrPageSum)
		}
	}
}
