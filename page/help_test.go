package page_test

import (
	"bytes"
	"encoding/binary"
	"hash/crc32"
	"testing"

	"coffret/api"
	"coffret/block"
	"coffret/page"
)

// summed gives b the sum of all that follows it.
func summed(b []byte) []byte {
	binary.LittleEndian.PutUint32(b, crc32.ChecksumIEEE(b[4:]))
	return b
}

// written is a page, word by word of the chapter, whatever stands in its parts; rest is its body, and what is behind it.
func written(number uint32, kind byte, length int, rest ...byte) []byte {
	b := make([]byte, api.PageSize)
	binary.LittleEndian.PutUint32(b[4:], number)
	b[8] = kind
	binary.LittleEndian.PutUint16(b[9:], uint16(length))
	copy(b[11:], rest)
	return summed(b)
}

// other is b with the byte at a place turned into another one; its sum stays.
func other(b []byte, at int, by byte) []byte {
	b = bytes.Clone(b)
	b[at] ^= by
	return b
}

// far are numbers far away from all that have a meaning here.
func far() []int {
	return []int{api.MaxInt, api.MaxInt - 1, api.MinInt, api.MinInt + 1, 1 << 31, 1<<32 - 1, 1 << 32, 1<<32 + 1, 1<<32 + 3, 1<<40 + 3, -1 << 32, -1<<32 + 3, -255, -256, -4096}
}

// edgeBodies are the least ones and the longest ones, and those whose length has a byte of all or no bits.
func edgeBodies() [][]byte {
	l := [][]byte{nil, {}, {0}, {7, 8}, make([]byte, api.MaxBody)}
	for _, n := range []int{3, 255, 256, 257, 501, 502, 3840, 4084, api.MaxBody} {
		l = append(l, bytes.Repeat([]byte{255}, n))
	}
	return l
}

// dice are numbers that look like any, the same at each run.
type dice uint64

func (d *dice) below(n int) int {
	*d = *d*6364136223846793005 + 1442695040888963407
	return int(*d>>33) % n
}

// number is any page's number.
func (d *dice) number() int {
	return d.below(api.MaxPages) >> d.below(17)
}

func (d *dice) kind() int { return 1 + d.below(255) }

// body is any one, often a short one, at times one with nothing but the same byte.
func (d *dice) body() []byte {
	b := make([]byte, d.below(api.MaxBody+1)>>d.below(13))
	same := d.below(4) == 0
	c := byte(d.below(256))
	for i := range b {
		b[i] = c
		if !same {
			b[i] = byte(d.below(256))
		}
	}
	return b
}

func wantMake(t *testing.T, number, kind int, body []byte) {
	t.Helper()
	want := written(uint32(number), byte(kind), len(body), body...)
	if b, e := page.Make(number, kind, body); !bytes.Equal(b, want) || e != api.OK {
		t.Errorf("Make(%d, %d, %d bytes): %d bytes, %v", number, kind, len(body), len(b), e)
	}
}

func wantNoMake(t *testing.T, number, kind, length int) {
	t.Helper()
	if b, e := page.Make(number, kind, make([]byte, length)); len(b) != 0 || e != api.ErrArg {
		t.Errorf("Make(%d, %d, %d bytes): %d bytes, %v", number, kind, length, len(b), e)
	}
}

func wantOpen(t *testing.T, what string, b []byte, number, kind int, body []byte) {
	t.Helper()
	if k, x, e := page.Open(b, number); k != kind || !bytes.Equal(x, body) || e != api.OK {
		t.Errorf("%s: Open(%d): %d, %d bytes, %v, want %d, %d bytes", what, number, k, len(x), e, kind, len(body))
	}
}

func wantNoOpen(t *testing.T, what string, b []byte, number int, want api.Errno) {
	t.Helper()
	if k, x, e := page.Open(b, number); k != 0 || len(x) != 0 || e != want {
		t.Errorf("%s: Open(%d): %d, %d bytes, %v, want %v", what, number, k, len(x), e, want)
	}
}

func wantWrite(t *testing.T, d *block.Disk, number, kind int, body []byte) {
	t.Helper()
	if err := page.Write(d, number, kind, body); err != nil {
		t.Errorf("Write(%d, %d, %d bytes): %v", number, kind, len(body), err)
	}
}

func wantNoWrite(t *testing.T, d *block.Disk, number, kind int, body []byte, want api.Errno) {
	t.Helper()
	if err := page.Write(d, number, kind, body); err == nil || api.Number(err) != want {
		t.Errorf("Write(%d, %d, %d bytes): %v, want %v", number, kind, len(body), err, want)
	}
}

func wantRead(t *testing.T, what string, d *block.Disk, number, kind int, body []byte) {
	t.Helper()
	if k, x, err := page.Read(d, number); k != kind || !bytes.Equal(x, body) || err != nil {
		t.Errorf("%s: Read(%d): %d, %d bytes, %v, want %d, %d bytes", what, number, k, len(x), err, kind, len(body))
	}
}

func wantNoRead(t *testing.T, what string, d *block.Disk, number int, want api.Errno) {
	t.Helper()
	if k, x, err := page.Read(d, number); k != 0 || len(x) != 0 || err == nil || api.Number(err) != want {
		t.Errorf("%s: Read(%d): %d, %d bytes, %v, want %v", what, number, k, len(x), err, want)
	}
}

// sectors are the bytes of some of a disk, one behind another.
func sectors(h *block.Hand, from, to int) []byte {
	var b []byte
	for at := from; at < to; at++ {
		b = append(b, h.Sector(at)...)
	}
	return b
}

// plant puts bytes into a page's sectors.
func plant(h *block.Hand, number int, b []byte) {
	for i := range api.PageSectors {
		h.Plant(number*api.PageSectors+i, b[i*api.SectorSize:(i+1)*api.SectorSize])
	}
}
