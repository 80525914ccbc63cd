package op

import (
	"weighhouse/api"
	"weighhouse/value"
)

const packSize = 8

// Apply answers what the plain operation op makes of l.
func Apply(op int, l ...api.Value) ([]api.Value, api.Errno) {
	if !Plain(op) || !value.Fits(l, In(op)) {
		return nil, api.ErrArg
	}
	if err := fault(op, l...); err != api.OK {
		return nil, err
	}
	return []api.Value{answer(op, l...)}, api.OK
}

// fault answers why op has no answer of l, which are of its types.
func fault(op int, l ...api.Value) api.Errno {
	switch op {
	case Div:
		fallthrough
	case Rem:
		if l[1].N == 0 {
			return api.ErrZero
		}
	case Join:
		if len(l[0].B)+len(l[1].B) > api.MaxValue {
			return api.ErrLong
		}
	case Unpack:
		if len(l[0].B) > packSize {
			return api.ErrLong
		}
	case Cut:
		if from, to := l[1].N, l[2].N; from < 0 || from > to || to > len(l[0].B) {
			return api.ErrIndex
		}
	case At:
		if at := l[1].N; at < 0 || at >= len(l[0].B) {
			return api.ErrIndex
		}
	}
	return api.OK
}

// answer and what it calls are asked only where there is no fault.
func answer(op int, l ...api.Value) api.Value {
	switch Out(op)[0] {
	case api.Int:
		return value.Number(number(op, l...))
	case api.Bytes:
		return value.Text(text(op, l...))
	}
	return value.Truth(truth(op, l...))
}

func number(op int, l ...api.Value) int {
	switch op {
	case Neg:
		return -l[0].N
	case Inv:
		return ^l[0].N
	case Len:
		return len(l[0].B)
	case At:
		return int(l[0].B[l[1].N])
	case Unpack:
		return unpack(l[0].B)
	}
	return calculate(op, l[0].N, l[1].N)
}

// calculate leans on ints that wrap round as the chapter asks: the least
// number by -1, too.
func calculate(op, a, b int) int {
	switch op {
	case Sub:
		b = -b
		fallthrough
	case Add:
		return a + b
	case Mul:
		return a * b
	case Div:
		return a / b
	case Rem:
		return a % b
	case And:
		return a & b
	case Or:
		return a | b
	case Xor:
		return a ^ b
	case Shl:
		return a << (b & 63)
	}
	return a >> (b & 63)
}

func text(op int, l ...api.Value) string {
	switch op {
	case Join:
		return l[0].B + l[1].B
	case Cut:
		return l[0].B[l[1].N:l[2].N]
	case Pack:
		return pack(l[0].N)
	}
	return string([]byte{byte(l[0].N)})
}

func truth(op int, l ...api.Value) bool {
	switch op {
	case True:
		return true
	case False:
		return false
	case Both:
		return l[0].N == 1 && l[1].N == 1
	case Either:
		return l[0].N == 1 || l[1].N == 1
	case Not:
		return l[0].N == 0
	}
	return holds(op, value.Compare(l[0], l[1]))
}

// holds answers whether what op asks of two values, be they numbers or bytes,
// is so, if they compare as c says.
func holds(op, c int) bool {
	switch op {
	case Same:
		fallthrough
	case Eq:
		return c == 0
	case Less:
		fallthrough
	case Lt:
		return c < 0
	case Ne:
		return c != 0
	case Le:
		return c <= 0
	case Gt:
		return c > 0
	}
	return c >= 0
}

func pack(n int) string {
	var b [packSize]byte
	for i := range b {
		b[packSize-1-i] = byte(n >> (8 * i))
	}
	return string(b[:])
}

func unpack(s string) int {
	n := 0
	for i := range len(s) {
		n = n<<8 | int(s[i])
	}
	return n
}
