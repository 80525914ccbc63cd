// Package wire is layer 1: numbers, bytes and frames: see shared/doc/01-wire.md.
package wire

import "weighhouse/api"

const (
	maxByte  = 255
	maxText  = 65535
	intSize  = 8
	textHead = 2
)

// held is what Writers and Readers embed. They embed it by pointer: one that
// no constructor made has none, and copies of one that was made stay one,
// instead of writing into the same room unknown to each other.
type held struct {
	bytes []byte
	err   api.Errno
}

// fail keeps the first error: that is the one the document asks for.
func (h *held) fail(err api.Errno) {
	if h.err == api.OK {
		h.err = err
	}
}

// appendNumber puts the lowest size bytes of n behind b, the highest first.
func appendNumber(b []byte, n uint64, size int) []byte {
	for i := size - 1; i >= 0; i-- {
		b = append(b, byte(n>>(8*i)))
	}
	return b
}

// number reads b, the highest byte first.
func number(b []byte) uint64 {
	n := uint64(0)
	for _, x := range b {
		n = n<<8 | uint64(x)
	}
	return n
}

// fresh copies b, so that no answer and no argument shares room with it.
func fresh(b []byte) []byte {
	c := make([]byte, len(b))
	copy(c, b)
	return c
}
