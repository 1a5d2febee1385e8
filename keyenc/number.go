package keyenc

// wide are a number's bytes, the highest first.
type wide [8]byte

// widened are a number's bytes. It is 2^63 more there, so that numbers below 0 stand ahead of the others.
func widened(n int) wide {
	var w wide
	raised := uint64(n) + 1<<63
	for i := range w {
		w[len(w)-1-i] = byte(raised >> (8 * i))
	}
	return w
}

// number is the way back.
func (w wide) number() int {
	raised := uint64(0)
	for _, c := range w {
		raised = raised<<8 | uint64(c)
	}
	return int(raised - 1<<63)
}
