package sum_test

import (
	"encoding/binary"
	"testing"

	"coffret/api"
)

// TestNumberExamples are the chapter's (P11.3).
func TestNumberExamples(t *testing.T) {
	wantNumber(t, 258, 2, 2, 1)
	wantNoNumber(t, 258, 1)
	wantNoNumber(t, 0, 9)
	wantNoNumber(t, -1, 8)
}

// TestNumberSizes: of each size the least, the greatest, and one past it (P11.3).
func TestNumberSizes(t *testing.T) {
	for size := 1; size <= 8; size++ {
		wantNumber(t, 0, size, make([]byte, size)...)
		most := make([]byte, size)
		for i := range most {
			most[i] = 255
		}
		if size == 8 {
			most[7] = 127
			wantNumber(t, api.MaxInt, size, most...)
			continue
		}
		wantNumber(t, 1<<(8*size)-1, size, most...)
		wantNoNumber(t, 1<<(8*size), size)
		wantNumber(t, 1<<(8*size), size+1, append(make([]byte, size), 1)...)
		wantNoNumber(t, api.MaxInt, size)
		wantNoNumber(t, 1<<62, size)
	}
}

// TestNumberBytes: each byte at each place (P11.3).
func TestNumberBytes(t *testing.T) {
	for size := 1; size <= 8; size++ {
		for at := range size {
			for c := range 256 {
				if at == 7 && c > 127 {
					continue
				}
				want := make([]byte, size)
				want[at] = byte(c)
				wantNumber(t, c<<(8*at), size, want...)
			}
		}
	}
	wantNumber(t, 0x0102030405060708, 8, 8, 7, 6, 5, 4, 3, 2, 1)
	wantNumber(t, 0x010203, 5, 3, 2, 1, 0, 0)
}

// TestAnyNumber: it fits just if nothing stands in the bytes that there are not (P11.3).
func TestAnyNumber(t *testing.T) {
	d := dice(5)
	fit, not := 0, 0
	for range 20000 {
		n := d.number()
		all := binary.LittleEndian.AppendUint64(nil, uint64(n))
		for size := 1; size <= 8; size++ {
			if binary.LittleEndian.Uint64(append(append([]byte{}, all[size:]...), make([]byte, size)...)) == 0 {
				wantNumber(t, n, size, all[:size]...)
				fit++
			} else {
				wantNoNumber(t, n, size)
				not++
			}
		}
	}
	if fit < 10000 || not < 10000 {
		t.Errorf("too few: %d, %d", fit, not)
	}
}

// TestNoNumber: sizes that there are not, and numbers below 0, in each size (P11.3).
func TestNoNumber(t *testing.T) {
	for _, size := range noSizes() {
		for _, n := range []int{0, 1, 255, 258, -1, api.MaxInt, api.MinInt} {
			wantNoNumber(t, n, size)
		}
	}
	for size := 1; size <= 8; size++ {
		for _, n := range []int{-1, -2, -255, -256, -full - 1, api.MinInt, api.MinInt + 1} {
			wantNoNumber(t, n, size)
		}
	}
}
