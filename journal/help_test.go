package journal_test

import (
	"bytes"
	"encoding/binary"
	"hash/crc32"
	"slices"
	"testing"

	"coffret/api"
	"coffret/block"
	"coffret/journal"
)

// part is how many bytes of the stream a sector has.
const part = 504

// longest is how many bytes a record has at most.
const longest = 65536 * 4096

// framed is a frame, word by word of the chapter, whatever its head says; b is what stands behind that.
func framed(length uint32, epoch uint64, number uint32, b ...byte) []byte {
	f := binary.LittleEndian.AppendUint32(nil, length)
	f = binary.LittleEndian.AppendUint64(f, epoch)
	f = binary.LittleEndian.AppendUint32(f, number)
	s := crc32.Update(crc32.ChecksumIEEE(f), crc32.IEEETable, b)
	return append(binary.LittleEndian.AppendUint32(f, s), b...)
}

// frameOf is a record's.
func frameOf(epoch, number int, b []byte) []byte {
	return framed(uint32(len(b)), uint64(epoch), uint32(number), b...)
}

// behind is some of a stream with one frame more.
func behind(stream, frame []byte) []byte {
	for len(stream)%part > part-20 {
		stream = append(stream, 0)
	}
	return append(stream, frame...)
}

// streamOf are the frames of records, one behind another.
func streamOf(epoch int, records ...[]byte) []byte {
	var s []byte
	for i, b := range records {
		s = behind(s, frameOf(epoch, i, b))
	}
	return s
}

// laid are sectors, so stamped, with a stream, behind which they have 0.
func laid(stamp uint64, stream []byte) []byte {
	b := make([]byte, 0, (len(stream)/part+1)*512)
	for x := range slices.Chunk(stream, part) {
		b = binary.LittleEndian.AppendUint64(b, stamp)
		b = append(b, x...)
		b = append(b, make([]byte, part-len(x))...)
	}
	return b
}

// laidOf are the sectors of records.
func laidOf(epoch int, records ...[]byte) []byte {
	return laid(uint64(epoch), streamOf(epoch, records...))
}

// other is b with the byte at a place turned into another one.
func other(b []byte, at int, by byte) []byte {
	b = bytes.Clone(b)
	b[at] ^= by
	return b
}

// full is a row of bytes none of which is 0.
func full(n int) []byte {
	return bytes.Repeat([]byte{77}, n)
}

// epochs are the edges of those that there are.
func epochs() []int {
	return []int{1, 2, 127, 128, 255, 256, 65535, 65536, 1<<32 - 1, 1 << 32, 1<<32 + 1, api.MaxVersion - 1, api.MaxVersion}
}

// noEpochs are the edges of those that there are not, of which some have the lowest bits of some.
func noEpochs() []int {
	return []int{0, -1, -2, api.MaxVersion + 1, api.MaxVersion + 2, 2 * api.MaxVersion, 1<<48 + 1, 1<<62 + 1, -1<<32 + 1, -api.MaxVersion, api.MaxInt, api.MinInt, api.MinInt + 1}
}

// dice are numbers that look like any, the same at each run.
type dice uint64

func (d *dice) below(n int) int {
	*d = *d*6364136223846793005 + 1442695040888963407
	return int(*d>>24) % n
}

func (d *dice) epoch() int { return 1 + d.below(1<<38)>>d.below(38) }

// bytes are so many, at times all of them alike.
func (d *dice) bytes(n int) []byte {
	b := make([]byte, n)
	same, c := d.below(3) == 0, byte(d.below(3))
	for i := range b {
		b[i] = c
		if !same {
			b[i] = byte(d.below(256))
		}
	}
	return b
}

// record is any one up to a length, often one behind which little is left of a sector.
func (d *dice) record(most int) []byte {
	n := d.below(most+1) >> d.below(12)
	if d.below(3) == 0 {
		n = min(most, d.below(4)*part+part-40-d.below(30))
	}
	return d.bytes(n)
}

func alike(a, b [][]byte) bool { return slices.EqualFunc(a, b, bytes.Equal) }

func wantFrame(t *testing.T, epoch, number int, b []byte) {
	t.Helper()
	if f, e := journal.Frame(epoch, number, b); !bytes.Equal(f, frameOf(epoch, number, b)) || e != api.OK {
		t.Errorf("Frame(%d, %d, %d bytes): %d bytes, %v", epoch, number, len(b), len(f), e)
	}
}

func wantNoFrame(t *testing.T, epoch, number int, b []byte, want api.Errno) {
	t.Helper()
	if f, e := journal.Frame(epoch, number, b); len(f) != 0 || e != want {
		t.Errorf("Frame(%d, %d, %d bytes): %d bytes, %v, want %v", epoch, number, len(b), len(f), e, want)
	}
}

func wantScan(t *testing.T, what string, b []byte, epoch, end int, want ...[]byte) {
	t.Helper()
	if l, at := journal.Scan(b, epoch); !alike(l, want) || at != end {
		t.Errorf("%s: Scan of %d bytes, epoch %d: %d records, %d, want %d, %d", what, len(b), epoch, len(l), at, len(want), end)
	}
}

func wantRead(t *testing.T, what string, d *block.Disk, from, many, epoch int, want ...[]byte) {
	t.Helper()
	if l, err := journal.Read(d, from, many, epoch); !alike(l, want) || err != nil {
		t.Errorf("%s: Read(%d, %d, %d): %d records, %v, want %d", what, from, many, epoch, len(l), err, len(want))
	}
}

func wantNoRead(t *testing.T, what string, d *block.Disk, from, many, epoch int, want api.Errno) {
	t.Helper()
	if l, err := journal.Read(d, from, many, epoch); len(l) != 0 || err == nil || api.Number(err) != want {
		t.Errorf("%s: Read(%d, %d, %d): %d records, %v, want %v", what, from, many, epoch, len(l), err, want)
	}
}

// begun is a journal of an area.
func begun(t *testing.T, d *block.Disk, from, many, epoch int) *journal.Journal {
	t.Helper()
	j, e := journal.New(d, from, many, epoch)
	if j == nil || e != api.OK {
		t.Fatalf("New(%d, %d, %d): %v", from, many, epoch, e)
	}
	return j
}

func wantNoNew(t *testing.T, d *block.Disk, from, many, epoch int) {
	t.Helper()
	if j, e := journal.New(d, from, many, epoch); j != nil || e != api.ErrArg {
		t.Errorf("New(%d, %d, %d): %v, %v", from, many, epoch, j, e)
	}
}

func wantAppend(t *testing.T, j *journal.Journal, b []byte) {
	t.Helper()
	if err := j.Append(b); err != nil {
		t.Errorf("Append(%d bytes): %v", len(b), err)
	}
}

func wantNoAppend(t *testing.T, what string, j *journal.Journal, b []byte, want api.Errno) {
	t.Helper()
	if err := j.Append(b); err == nil || api.Number(err) != want {
		t.Errorf("%s: Append(%d bytes): %v, want %v", what, len(b), err, want)
	}
}

func wantSync(t *testing.T, j *journal.Journal) {
	t.Helper()
	if err := j.Sync(); err != nil {
		t.Errorf("Sync: %v", err)
	}
}

func wantNoSync(t *testing.T, what string, j *journal.Journal, want api.Errno) {
	t.Helper()
	if err := j.Sync(); err == nil || api.Number(err) != want {
		t.Errorf("%s: Sync: %v, want %v", what, err, want)
	}
}

// wantStand asks a journal of many pages how it stands, with these records.
func wantStand(t *testing.T, what string, j *journal.Journal, many int, records ...[]byte) {
	t.Helper()
	end := len(streamOf(1, records...))
	next := len(behind(make([]byte, end), nil))
	if j.Records() != len(records) || j.Bytes() != end || j.Room() != many*8*part-next-20 {
		t.Errorf("%s: Records %d, Bytes %d, Room %d, want %d, %d, %d", what, j.Records(), j.Bytes(), j.Room(), len(records), end, many*8*part-next-20)
	}
}

// sectors are the bytes of some of a disk, one behind another.
func sectors(h *block.Hand, from, to int) []byte {
	var b []byte
	for at := from; at < to; at++ {
		b = append(b, h.Sector(at)...)
	}
	return b
}

// plant puts bytes into a disk's sectors, from one on.
func plant(h *block.Hand, at int, b []byte) {
	for x := range slices.Chunk(b, 512) {
		h.Plant(at, x)
		at++
	}
}

// filled is a disk of so many sectors, each byte of which is 99.
func filled(sectors int) *block.Hand {
	h := block.New(sectors)
	plant(h, 0, bytes.Repeat([]byte{99}, 512*sectors))
	return h
}
