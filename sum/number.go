package sum

import "coffret/api"

// Number is n in so many bytes.
func Number(n, size int) ([]byte, api.Errno) {
	if !isSize(size) || n < 0 || n>>(8*size) != 0 {
		return nil, api.ErrArg
	}
	b := make([]byte, size)
	for i := range b {
		b[i] = byte(n >> (8 * i))
	}
	return b, api.OK
}

// Read reads a number of so many bytes.
func Read(b []byte, at, size int) (int, api.Errno) {
	if !isSize(size) || at < 0 || at > len(b) {
		return 0, api.ErrArg
	}
	if len(b)-at < size {
		return 0, api.ErrSumShort
	}
	var n uint64
	for i, c := range b[at : at+size] {
		n |= uint64(c) << (8 * i)
	}
	if n > api.MaxInt {
		return 0, api.ErrSumForm
	}
	return int(n), api.OK
}

func isSize(n int) bool { return n >= 1 && n <= 8 }
