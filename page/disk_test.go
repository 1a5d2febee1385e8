package page_test

import (
	"bytes"
	"testing"

	"coffret/api"
	"coffret/block"
	"coffret/page"
)

// TestPages: as many as there are eight sectors for (P12.3).
func TestPages(t *testing.T) {
	for n := range 200 {
		if got := page.Pages(block.New(n).Disk()); got != n/8 {
			t.Errorf("Pages of %d sectors: %d", n, got)
		}
	}
	for n, want := range map[int]int{-1: 0, -9: 0, api.MinInt: 0, 8 * api.MaxPages: api.MaxPages, 8*api.MaxPages + 800: api.MaxPages + 100, api.MaxInt: 1<<60 - 1} {
		if got := page.Pages(block.New(n).Disk()); got != want {
			t.Errorf("Pages of %d sectors: %d, want %d", n, got, want)
		}
	}
	h := block.New(17)
	h.Arm(0, false)
	page.Pages(h.Disk())
	wantNoWrite(t, h.Disk(), 0, 1, nil, api.ErrDown)
	if got := page.Pages(h.Disk()); got != 2 {
		t.Errorf("Pages of a disk that is down: %d", got)
	}
}

// TestDiskExamples are the chapter's (P12.3, P12.4).
func TestDiskExamples(t *testing.T) {
	d := block.New(17).Disk()
	if n := page.Pages(d); n != 2 {
		t.Errorf("Pages of 17 sectors: %d", n)
	}
	wantNoRead(t, "not there", d, 2, api.ErrArg)
	wantNoRead(t, "nothing written", d, 1, api.ErrPageSum)
}

// TestWriteSectors: a page's sectors have its bytes, eight acts were carried out, and nothing else has changed (P12.4).
func TestWriteSectors(t *testing.T) {
	h := block.New(8*5 + 3)
	ahead := bytes.Repeat([]byte{77}, api.SectorSize)
	for at := range 8*5 + 3 {
		h.Plant(at, ahead)
	}
	for number := range 5 {
		h.Arm(8, false)
		before := h.Waiting()
		wantWrite(t, h.Disk(), number, 9, []byte{byte(number), 1})
		if h.Waiting() != before+8 || h.Down() {
			t.Errorf("page %d: %d writes wait, %d did", number, h.Waiting(), before)
		}
		if !bytes.Equal(sectors(h, 8*number, 8*number+8), written(uint32(number), 9, 2, byte(number), 1)) {
			t.Errorf("page %d has other bytes", number)
		}
		for at := 8*number + 8; at < 8*5+3; at++ {
			if !bytes.Equal(h.Sector(at), ahead) {
				t.Errorf("page %d: sector %d has changed", number, at)
			}
		}
	}
	for number := range 5 {
		wantRead(t, "all", h.Disk(), number, 9, []byte{byte(number), 1})
	}
}

// TestWriteRising: of the writes that wait each one is of the next sector (P12.4).
func TestWriteRising(t *testing.T) {
	want := written(2, 7, api.MaxBody, bytes.Repeat([]byte{5}, api.MaxBody)...)
	for i := range 8 {
		h := block.New(32)
		wantWrite(t, h.Disk(), 2, 7, bytes.Repeat([]byte{5}, api.MaxBody))
		keep := make([]bool, 8)
		keep[i] = true
		h.Crash(keep)
		for at := range 32 {
			b := make([]byte, api.SectorSize)
			if at == 16+i {
				b = want[i*api.SectorSize : (i+1)*api.SectorSize]
			}
			if !bytes.Equal(h.Sector(at), b) {
				t.Errorf("write %d kept: sector %d", i, at)
			}
		}
	}
}

// TestWriteRefused: the first sector that is refused ends it; what was written stays so, with the one at which the disk went down, if that was carried out (P12.4).
func TestWriteRefused(t *testing.T) {
	want := written(1, 7, api.MaxBody, bytes.Repeat([]byte{5}, api.MaxBody)...)
	for acts := range 8 {
		for _, done := range []bool{false, true} {
			h := block.New(24)
			h.Arm(acts, done)
			wantNoWrite(t, h.Disk(), 1, 7, bytes.Repeat([]byte{5}, api.MaxBody), api.ErrDown)
			many := acts
			if done {
				many++
			}
			if h.Waiting() != many || !h.Down() {
				t.Errorf("%d acts, %v: %d wait", acts, done, h.Waiting())
			}
			b := make([]byte, api.PageSize)
			copy(b, want[:many*api.SectorSize])
			if !bytes.Equal(sectors(h, 8, 16), b) {
				t.Errorf("%d acts, %v: other bytes", acts, done)
			}
			wantNoRead(t, "down", h.Disk(), 1, api.ErrDown)
			wantNoWrite(t, h.Disk(), 0, 7, nil, api.ErrDown)
			if h.Waiting() != many {
				t.Errorf("%d acts, %v: %d wait when down", acts, done, h.Waiting())
			}
		}
	}
}

// TestNoWrite: what Make refuses, and pages that there are not: nothing is written, no act is tried; it is told of a disk that is down, too (P12.4, W4).
func TestNoWrite(t *testing.T) {
	long := make([]byte, api.MaxBody+1)
	h := block.New(17)
	for range 2 {
		for _, number := range append(far(), -1, 2, 3, api.MaxPages-1, api.MaxPages) {
			wantNoWrite(t, h.Disk(), number, 9, nil, api.ErrArg)
			wantNoWrite(t, h.Disk(), number, 0, long, api.ErrArg)
		}
		for _, kind := range append(far(), 0, -1, 256) {
			wantNoWrite(t, h.Disk(), 1, kind, nil, api.ErrArg)
		}
		wantNoWrite(t, h.Disk(), 1, 9, long, api.ErrArg)
		if h.Waiting() != 0 || h.Down() || !bytes.Equal(sectors(h, 0, 17), make([]byte, 17*api.SectorSize)) {
			t.Errorf("%d writes wait, down: %v", h.Waiting(), h.Down())
		}
		h.Arm(0, false)
	}
	wantNoWrite(t, h.Disk(), 1, 9, nil, api.ErrDown)
	wantNoWrite(t, h.Disk(), 2, 9, nil, api.ErrArg)
	wantNoWrite(t, h.Disk(), 1, 0, nil, api.ErrArg)
	for n := range 8 {
		wantNoWrite(t, block.New(n).Disk(), 0, 9, nil, api.ErrArg)
	}
}

// TestNoRead: pages that there are not are told ahead of all, of a disk that is down, too (P12.4, W4).
func TestNoRead(t *testing.T) {
	h := block.New(17)
	for _, want := range []api.Errno{api.ErrPageSum, api.ErrDown} {
		for _, number := range append(far(), -1, 2, 3, api.MaxPages-1, api.MaxPages) {
			wantNoRead(t, "not there", h.Disk(), number, api.ErrArg)
		}
		for number := range 2 {
			wantNoRead(t, "there", h.Disk(), number, want)
		}
		h.Arm(0, false)
		wantNoWrite(t, h.Disk(), 0, 9, nil, api.ErrDown)
	}
	for n := range 8 {
		wantNoRead(t, "no page", block.New(n).Disk(), 0, api.ErrArg)
	}
}

// TestReadIsNoAct: it doesn't wait, and the disk doesn't go down at it (P12.4).
func TestReadIsNoAct(t *testing.T) {
	h := block.New(16)
	wantWrite(t, h.Disk(), 1, 9, []byte{4})
	h.Arm(0, false)
	wantRead(t, "armed", h.Disk(), 1, 9, []byte{4})
	wantNoRead(t, "armed", h.Disk(), 0, api.ErrPageSum)
	if h.Waiting() != 8 || h.Down() {
		t.Errorf("%d writes wait, down: %v", h.Waiting(), h.Down())
	}
}

// TestReadAsOpen: whatever stands in a page's sectors, it is told as Open tells it (P12.4).
func TestReadAsOpen(t *testing.T) {
	h := block.New(32)
	for what, x := range map[string]struct {
		b    []byte
		want api.Errno
	}{
		"another place": {written(3, 9, 1, 4), api.ErrPagePlace},
		"place, form":   {written(1, 0, 0), api.ErrPagePlace},
		"no kind":       {written(2, 0, 0), api.ErrPageForm},
		"long":          {written(2, 9, 4086), api.ErrPageForm},
		"behind":        {written(2, 9, 0, 1), api.ErrPageForm},
		"other":         {other(written(2, 9, 1, 4), 4095, 1), api.ErrPageSum},
	} {
		plant(h, 2, x.b)
		wantNoRead(t, what, h.Disk(), 2, x.want)
	}
	full := bytes.Repeat([]byte{255}, api.MaxBody)
	plant(h, 2, written(2, 255, api.MaxBody, full...))
	wantRead(t, "planted", h.Disk(), 2, 255, full)
	plant(h, 2, written(2, 1, 0))
	wantRead(t, "planted, no body", h.Disk(), 2, 1, nil)
}

// TestReadEachSector: a page of which one sector is another page's is refused (P12.4).
func TestReadEachSector(t *testing.T) {
	for i := range 8 {
		h := block.New(32)
		wantWrite(t, h.Disk(), 2, 9, bytes.Repeat([]byte{4}, api.MaxBody))
		wantWrite(t, h.Disk(), 3, 9, bytes.Repeat([]byte{5}, api.MaxBody))
		h.Plant(16+i, h.Sector(24+i))
		wantNoRead(t, "mixed", h.Disk(), 2, api.ErrPageSum)
		wantRead(t, "beside", h.Disk(), 3, 9, bytes.Repeat([]byte{5}, api.MaxBody))
	}
}

// TestManyPages: on a disk of more pages than can be made, those that can't be are read, but not written (P12.4).
func TestManyPages(t *testing.T) {
	h := block.New(8 * (api.MaxPages + 2))
	for _, number := range []int{0, api.MaxPages - 1} {
		wantWrite(t, h.Disk(), number, 9, []byte{4})
		wantRead(t, "last", h.Disk(), number, 9, []byte{4})
	}
	for _, number := range []int{api.MaxPages, api.MaxPages + 1} {
		wantNoWrite(t, h.Disk(), number, 9, nil, api.ErrArg)
		wantNoRead(t, "behind", h.Disk(), number, api.ErrPageSum)
		plant(h, number, written(uint32(number), 9, 1, 4))
		wantRead(t, "behind", h.Disk(), number, 9, []byte{4})
	}
	wantNoRead(t, "behind all", h.Disk(), api.MaxPages+2, api.ErrArg)
	wantNoRead(t, "far", block.New(api.MaxInt).Disk(), 1<<60-2, api.ErrPageSum)
	wantNoRead(t, "farther", block.New(api.MaxInt).Disk(), 1<<60-1, api.ErrArg)
}
