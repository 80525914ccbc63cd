package fast

import (
	"weighhouse/api"
	"weighhouse/op"
)

const packSize = 8

// number answers what the operation n makes of two numbers, or truths; of one
// that takes a single number, a and b both are it. Ints wrap round as chapter 3
// asks: the least number by -1, too.
func number(n, a, b int) int {
	switch n {
	case op.Neg:
		a = 0
		fallthrough
	case op.Sub:
		b = -b
		fallthrough
	case op.Add:
		return a + b
	case op.Mul:
		return a * b
	case op.Div:
		return a / b
	case op.Rem:
		return a % b
	case op.Both:
		fallthrough
	case op.And:
		return a & b
	case op.Either:
		fallthrough
	case op.Or:
		return a | b
	case op.Inv:
		b = -1
		fallthrough
	case op.Xor:
		return a ^ b
	case op.Shl:
		return a << (b & 63)
	case op.Shr:
		return a >> (b & 63)
	}
	return 1 - a // of a truth: not
}

// holds answers whether what the operation n asks of two slots of one type is
// so. What is not of the type is zero in both: so numbers and bytes are asked
// alike.
func holds(n int, a, b slot) bool {
	switch n {
	case op.Ne:
		return a != b
	case op.Eq:
		fallthrough
	case op.Same:
		return a == b
	case op.Ge:
		return !isLess(a, b)
	case op.Le:
		return !isLess(b, a)
	case op.Gt:
		a, b = b, a
	}
	return isLess(a, b)
}

func isLess(a, b slot) bool {
	return a.n < b.n || a.b < b.b
}

// ofBytes answers what an operation that takes or makes bytes answers, or why it
// has no answer.
func ofBytes(n int, in []slot) (slot, api.Errno) {
	text := in[0].b
	switch n {
	case op.Len:
		return slot{n: len(text)}, api.OK
	case op.Join:
		if len(text)+len(in[1].b) > api.MaxValue {
			return slot{}, api.ErrLong
		}
		return slot{b: text + in[1].b}, api.OK
	case op.Cut:
		from, to := in[1].n, in[2].n
		if from < 0 || from > to || to > len(text) {
			return slot{}, api.ErrIndex
		}
		return slot{b: text[from:to]}, api.OK
	case op.At:
		at := in[1].n
		if at < 0 || at >= len(text) {
			return slot{}, api.ErrIndex
		}
		return slot{n: int(text[at])}, api.OK
	case op.Unpack:
		if len(text) > packSize {
			return slot{}, api.ErrLong
		}
		return slot{n: unpack(text)}, api.OK
	case op.Pack:
		return slot{b: pack(in[0].n)}, api.OK
	}
	return slot{b: string([]byte{byte(in[0].n)})}, api.OK // one
}

func pack(n int) string {
	var b [packSize]byte
	for i := range b {
		b[packSize-1-i] = byte(n >> (8 * i))
	}
	return string(b[:])
}

func unpack(text string) int {
	n := 0
	for i := range len(text) {
		n = n<<8 | int(text[i])
	}
	return n
}
