package sum_test

import (
	"bytes"
	"hash/crc32"
	"testing"

	"coffret/api"
	"coffret/sum"
)

// TestSumExamples are the chapter's (P11.1).
func TestSumExamples(t *testing.T) {
	wantSum(t, "nothing", nil, 0)
	wantSum(t, "nothing, no nil", []byte{}, 0)
	wantSum(t, "a letter", []byte("a"), 3904355907)
	wantSum(t, "digits", []byte("123456789"), 3421780262)
	wantMore(t, "digits, in two", sum.Sum([]byte("1234")), []byte("56789"), 3421780262)
}

// TestNoSum: what is no sum is refused, whatever bytes stand behind it (P11.1).
func TestNoSum(t *testing.T) {
	for _, s := range noSums() {
		for _, b := range [][]byte{nil, {}, {0}, []byte("abc")} {
			if n, e := sum.More(s, b); n != 0 || e != api.ErrArg {
				t.Errorf("More(%d, %v): %d, %v", s, b, n, e)
			}
		}
	}
}

// TestMoreNothing: behind each sum, of no bytes it is itself (P11.1).
func TestMoreNothing(t *testing.T) {
	for _, s := range edgeSums() {
		wantMore(t, "nothing", s, nil, s)
		wantMore(t, "nothing, no nil", s, []byte{}, s)
	}
}

// TestEachByte: each byte that there is, behind each sum of an edge, turn by turn (P11.1).
func TestEachByte(t *testing.T) {
	for c := range 256 {
		b := []byte{byte(c)}
		wantSum(t, "alone", b, more(0, b))
		for _, s := range edgeSums() {
			wantMore(t, "behind", s, b, more(s, b))
		}
	}
}

// TestEachPair: each two bytes, turn by turn (P11.1).
func TestEachPair(t *testing.T) {
	for c := range 1 << 16 {
		b := []byte{byte(c), byte(c >> 8)}
		wantSum(t, "two", b, more(0, b))
	}
}

// TestAnyBytes: bytes of many lengths, behind any sum, turn by turn (P11.1).
func TestAnyBytes(t *testing.T) {
	d := dice(1)
	for range 20000 {
		s, b := d.sum(), d.bytes(60)
		wantMore(t, "any", s, b, more(s, b))
		wantSum(t, "any", b, more(0, b))
	}
}

// TestManyBytes: it is the sum that is widely known by that turn, of many bytes, too (P11.1).
func TestManyBytes(t *testing.T) {
	d := dice(2)
	for _, n := range []int{1, 504, 512, 4085, 4092, 4096, 65536, 131072, 1 << 20} {
		for _, b := range [][]byte{bytes.Repeat([]byte{0}, n), bytes.Repeat([]byte{255}, n), bytes.Repeat([]byte("coffret"), n)[:n]} {
			wantSum(t, "the same again", b, int(crc32.ChecksumIEEE(b)))
		}
		b := make([]byte, n)
		for i := range b {
			b[i] = byte(d.below(256))
		}
		wantSum(t, "any", b, int(crc32.ChecksumIEEE(b)))
		s := d.sum()
		wantMore(t, "any", s, b, int(crc32.Update(uint32(s), crc32.IEEETable, b)))
	}
}
