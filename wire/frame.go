package wire

import (
	"math/bits"

	"weighhouse/api"
)

const (
	lengthSize = 4
	sumSize    = 4
	frameHead  = lengthSize + sumSize
)

// sums has what four bits leave in the register (polynomial 0xedb88320): a
// table of whole bytes would be too long to stand here.
var sums = [16]uint32{
	0x00000000, 0x1db71064, 0x3b6e20c8, 0x26d930ac,
	0x76dc4190, 0x6b6b51f4, 0x4db26158, 0x5005713c,
	0xedb88320, 0xf00f9344, 0xd6d6a3e8, 0xcb61b38c,
	0x9b64c2b0, 0x86d3d2d4, 0xa00ae278, 0xbdbdf21c,
}

// Sum answers CRC-32 of b.
func Sum(b []byte) uint32 {
	return sumOf(b)
}

// Frame answers b behind its length and the sum of both.
func Frame(b []byte) ([]byte, api.Errno) {
	if len(b) > api.MaxBytes {
		return nil, api.ErrSize
	}
	f := make([]byte, 0, frameHead+len(b))
	f = appendNumber(f, uint64(len(b)), lengthSize)
	f = appendNumber(f, lowestFirst(sumOf(f, b)), sumSize)
	return append(f, b...), api.OK
}

// Frames answers what is in the frames that b begins with, and how many bytes
// these frames have.
func Frames(b []byte) (l [][]byte, end int) {
	for {
		in, ok := firstFrame(b[end:])
		if !ok {
			return l, end
		}
		l = append(l, fresh(in))
		end += frameHead + len(in)
	}
}

// firstFrame answers what is in the frame that b begins with, if it does.
func firstFrame(b []byte) ([]byte, bool) {
	if len(b) < frameHead {
		return nil, false
	}
	length, rest := b[:lengthSize], b[frameHead:]
	n := number(length)
	if n > api.MaxBytes || n > uint64(len(rest)) {
		return nil, false
	}
	in := rest[:n]
	if number(b[lengthSize:frameHead]) != lowestFirst(sumOf(length, in)) {
		return nil, false
	}
	return in, true
}

// sumOf answers the sum of all parts, one behind the other.
func sumOf(parts ...[]byte) uint32 {
	c := ^uint32(0)
	for _, p := range parts {
		for _, x := range p {
			c ^= uint32(x)
			c = c>>4 ^ sums[c&15]
			c = c>>4 ^ sums[c&15]
		}
	}
	return ^c
}

// lowestFirst turns a sum's bytes round: unlike all other numbers it is
// written with the lowest byte first.
func lowestFirst(sum uint32) uint64 {
	return uint64(bits.ReverseBytes32(sum))
}
