package sum_test

import (
	"bytes"
	"testing"

	"coffret/api"
)

// TestReadExamples are the chapter's (P11.4).
func TestReadExamples(t *testing.T) {
	b := []byte{2, 1, 7}
	wantRead(t, b, 0, 2, 258)
	wantNoRead(t, b, 2, 2, api.ErrSumShort)
	wantNoRead(t, b, 4, 1, api.ErrArg)
	wantNoRead(t, bytes.Repeat([]byte{255}, 8), 0, 8, api.ErrSumForm)
}

// TestReadPlaces: each size at each place of bytes of each length, and beside them (P11.4).
func TestReadPlaces(t *testing.T) {
	all := []byte{17, 34, 51, 68, 85, 102, 119, 16, 33, 50, 67, 84}
	for long := range len(all) + 1 {
		b := all[:long:long]
		for at := -2; at <= long+2; at++ {
			for size := 1; size <= 8; size++ {
				switch {
				case at < 0 || at > long:
					wantNoRead(t, b, at, size, api.ErrArg)
				case at+size > long:
					wantNoRead(t, b, at, size, api.ErrSumShort)
				default:
					want := 0
					for i := at + size; i > at; i-- {
						want = want*256 + int(b[i-1])
					}
					wantRead(t, b, at, size, want)
				}
			}
		}
	}
}

// TestNoRead: sizes that there are not, and places far away, with bytes that would be too short or too great (P11.4).
func TestNoRead(t *testing.T) {
	for _, b := range [][]byte{nil, {}, {1}, bytes.Repeat([]byte{255}, 8), make([]byte, 300)} {
		for _, size := range noSizes() {
			for _, at := range []int{0, len(b), -1, len(b) + 1} {
				wantNoRead(t, b, at, size, api.ErrArg)
			}
		}
		for size := 1; size <= 8; size++ {
			for _, at := range []int{-1, -size, len(b) + 1, full + 1, api.MaxInt, api.MaxInt - size, api.MinInt, api.MinInt + size} {
				wantNoRead(t, b, at, size, api.ErrArg)
			}
			wantNoRead(t, b, len(b), size, api.ErrSumShort)
		}
	}
}

// TestReadTooGreat: eight bytes of which the last has its highest bit; in fewer bytes no number is too great (P11.4).
func TestReadTooGreat(t *testing.T) {
	for c := range 256 {
		for _, low := range []byte{0, 1, 255} {
			b := append(bytes.Repeat([]byte{low}, 7), byte(c))
			if c >= 128 {
				wantNoRead(t, b, 0, 8, api.ErrSumForm)
				wantNoRead(t, append([]byte{9, 9}, b...), 2, 8, api.ErrSumForm)
				continue
			}
			want := c
			for range 7 {
				want = want*256 + int(low)
			}
			wantRead(t, b, 0, 8, want)
		}
	}
	for size := 1; size <= 7; size++ {
		wantRead(t, bytes.Repeat([]byte{255}, 8), 0, size, 1<<(8*size)-1)
	}
	wantRead(t, []byte{255, 255, 255, 255, 255, 255, 255, 127, 255}, 0, 8, api.MaxInt)
	wantNoRead(t, []byte{0, 0, 0, 0, 0, 0, 0, 128}, 0, 8, api.ErrSumForm)
}

// TestReadSpareRoom: bytes behind the last one are none, though there is room with some in it (P11.4, W6).
func TestReadSpareRoom(t *testing.T) {
	b := bytes.Repeat([]byte{1}, 16)
	wantNoRead(t, b[:3], 0, 4, api.ErrSumShort)
	wantNoRead(t, b[:3], 3, 1, api.ErrSumShort)
	wantNoRead(t, b[:3], 4, 1, api.ErrArg)
	wantRead(t, b[:3], 2, 1, 1)
}
