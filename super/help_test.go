package super_test

import (
	"bytes"
	"encoding/binary"
	"hash/crc32"
	"testing"

	"coffret/api"
	"coffret/block"
	"coffret/super"
)

// summed gives b the sum of all that follows it.
func summed(b []byte) []byte {
	binary.LittleEndian.PutUint32(b, crc32.ChecksumIEEE(b[4:]))
	return b
}

// paged is a page, word by word of chapter 12, whatever stands in its parts; rest is its body, and what is behind it.
func paged(number uint32, kind byte, length int, rest ...byte) []byte {
	b := make([]byte, api.PageSize)
	binary.LittleEndian.PutUint32(b[4:], number)
	b[8] = kind
	binary.LittleEndian.PutUint16(b[9:], uint16(length))
	copy(b[11:], rest)
	return summed(b)
}

// said is a superblock's body, word by word of chapter 14, whatever it says.
func said(version, root, epoch, pages uint64) []byte {
	b := []byte{67, 70, 82, 84}
	for _, n := range []uint64{version, root, epoch, pages} {
		b = binary.LittleEndian.AppendUint64(b, n)
	}
	return b
}

// ofBody is the page of that number with this body.
func ofBody(number int, body []byte) []byte {
	return paged(uint32(number), 1, len(body), body...)
}

// sayingAt is the page of that number that says s, whether s may be or not.
func sayingAt(number int, s api.Super) []byte {
	return ofBody(number, said(uint64(s.Version), uint64(s.Root), uint64(s.Epoch), uint64(s.Pages)))
}

// saying is the page that says s, at its own number.
func saying(s api.Super) []byte { return sayingAt(s.Version&1, s) }

// other is b with the byte at a place turned into another one; its sum stays.
func other(b []byte, at int, by byte) []byte {
	b = bytes.Clone(b)
	b[at] ^= by
	return b
}

// far are numbers far away from all that have a meaning here, of which some have its lowest bits.
func far() []int {
	return []int{api.MaxInt, api.MaxInt - 1, api.MinInt, api.MinInt + 1, 1<<48 + 1, 1<<41 + 20, 1<<56 + 16, 1<<62 + 17, -1 << 32, -1<<40 + 20}
}

// versions are the edges of those that may be.
func versions() []int {
	return []int{1, 2, 3, 127, 128, 255, 256, 65535, 65536, 1<<32 - 1, 1 << 32, 1<<32 + 1, api.MaxVersion / 2, api.MaxVersion - 1, api.MaxVersion}
}

// noVersions are the edges of those that may not.
func noVersions() []int {
	return append(far(), 0, -1, -2, api.MaxVersion+1, api.MaxVersion+2, 2*api.MaxVersion)
}

// rights are superblocks that may be: each number at its edges beside each other one.
func rights() []api.Super {
	var l []api.Super
	for _, version := range versions() {
		for _, epoch := range versions() {
			for _, pages := range []int{api.MinPages, 17, 255, 256, 257, api.MaxPages - 1, api.MaxPages} {
				for _, root := range []int{0, 1, pages / 2, pages - 1} {
					l = append(l, api.Super{Version: version, Root: root, Epoch: epoch, Pages: pages})
				}
			}
		}
	}
	return l
}

// wrongs are superblocks that may not be: of each just one number is wrong.
func wrongs() []api.Super {
	var l []api.Super
	for _, n := range noVersions() {
		l = append(l, api.Super{Version: n, Root: 9, Epoch: 2, Pages: 20}, api.Super{Version: 3, Root: 9, Epoch: n, Pages: 20})
	}
	for _, n := range append(far(), 0, 1, 15, -1, -16, -20, api.MaxPages+1, api.MaxPages+20, 1<<32+20) {
		l = append(l, api.Super{Version: 3, Root: 0, Epoch: 2, Pages: n})
	}
	for _, pages := range []int{api.MinPages, 20, api.MaxPages} {
		for _, n := range append(far(), -1, -2, -pages, pages, pages+1, api.MaxPages, api.MaxPages+1, 1<<32) {
			l = append(l, api.Super{Version: 3, Root: n, Epoch: 2, Pages: pages})
		}
	}
	return l
}

// dice are numbers that look like any, the same at each run.
type dice uint64

func (d *dice) below(n int) int {
	*d = *d*6364136223846793005 + 1442695040888963407
	return int(*d>>24) % n
}

// super is any one that may be.
func (d *dice) super() api.Super {
	pages := api.MinPages + d.below(api.MaxPages-api.MinPages+1)>>d.below(17)
	return api.Super{Version: d.version(), Root: d.below(pages), Epoch: d.version(), Pages: pages}
}

func (d *dice) version() int { return 1 + d.below(1<<38)>>d.below(38) }

func wantMake(t *testing.T, s api.Super) {
	t.Helper()
	if b, e := super.Make(s); !bytes.Equal(b, saying(s)) || e != api.OK {
		t.Errorf("Make(%v): %d bytes, %v", s, len(b), e)
	}
}

func wantNoMake(t *testing.T, s api.Super) {
	t.Helper()
	if b, e := super.Make(s); len(b) != 0 || e != api.ErrArg {
		t.Errorf("Make(%v): %d bytes, %v", s, len(b), e)
	}
}

func wantOpen(t *testing.T, what string, b []byte, number int, want api.Super) {
	t.Helper()
	if s, e := super.Open(b, number); s != want || e != api.OK {
		t.Errorf("%s: Open(%d): %v, %v, want %v", what, number, s, e, want)
	}
}

func wantNoOpen(t *testing.T, what string, b []byte, number int, want api.Errno) {
	t.Helper()
	if s, e := super.Open(b, number); s != (api.Super{}) || e != want {
		t.Errorf("%s: Open(%d): %v, %v, want %v", what, number, s, e, want)
	}
}

func wantChoose(t *testing.T, what string, a, b []byte, want api.Super) {
	t.Helper()
	if s, e := super.Choose(a, b); s != want || e != api.OK {
		t.Errorf("%s: Choose: %v, %v, want %v", what, s, e, want)
	}
}

func wantNoChoose(t *testing.T, what string, a, b []byte) {
	t.Helper()
	if s, e := super.Choose(a, b); s != (api.Super{}) || e != api.ErrSuper {
		t.Errorf("%s: Choose: %v, %v", what, s, e)
	}
}

func wantWrite(t *testing.T, d *block.Disk, s api.Super) {
	t.Helper()
	if err := super.Write(d, s); err != nil {
		t.Errorf("Write(%v): %v", s, err)
	}
}

func wantNoWrite(t *testing.T, d *block.Disk, s api.Super, want api.Errno) {
	t.Helper()
	if err := super.Write(d, s); err == nil || api.Number(err) != want {
		t.Errorf("Write(%v): %v, want %v", s, err, want)
	}
}

func wantRead(t *testing.T, what string, d *block.Disk, want api.Super) {
	t.Helper()
	if s, err := super.Read(d); s != want || err != nil {
		t.Errorf("%s: Read: %v, %v, want %v", what, s, err, want)
	}
}

func wantNoRead(t *testing.T, what string, d *block.Disk, want api.Errno) {
	t.Helper()
	if s, err := super.Read(d); s != (api.Super{}) || err == nil || api.Number(err) != want {
		t.Errorf("%s: Read: %v, %v, want %v", what, s, err, want)
	}
}

// sectors are the bytes of some of a disk, one behind another.
func sectors(h *block.Hand, from, to int) []byte {
	var b []byte
	for at := from; at < to; at++ {
		b = append(b, h.Sector(at)...)
	}
	return b
}

// plant puts bytes into a page's sectors.
func plant(h *block.Hand, number int, b []byte) {
	for i := range 8 {
		h.Plant(number*8+i, b[i*512:(i+1)*512])
	}
}

// planted is a disk of so many pages that has these bytes on its first two.
func planted(pages int, a, b []byte) *block.Hand {
	h := block.New(8 * pages)
	plant(h, 0, a)
	plant(h, 1, b)
	return h
}

// nothing are the bytes of a page that was never written.
func nothing() []byte { return make([]byte, api.PageSize) }
