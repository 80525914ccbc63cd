package op_test

import (
	"math"
	"math/big"
	"math/rand"
	"testing"

	"weighhouse/api"
	"weighhouse/op"
	"weighhouse/value"
)

// numbers are those at whose edges something may go wrong.
func numbers() []int {
	return []int{0, 1, 2, 3, 7, -1, -2, -7, 63, 64, 65, 255, 256, 257, -255, -256, 1 << 31, 1 << 32, -1 << 32, math.MinInt, math.MinInt + 1, math.MaxInt, math.MaxInt - 1}
}

// someNumber answers numbers of all lengths, and those at the edges.
func someNumber(rnd *rand.Rand) int {
	if rnd.Intn(4) == 0 {
		return numbers()[rnd.Intn(len(numbers()))]
	}
	return int(rnd.Uint64()) >> rnd.Intn(64)
}

func someBytes(rnd *rand.Rand, n int) string {
	b := make([]byte, n)
	for i := range b {
		b[i] = byte(rnd.Intn(3) * 127)
	}
	return string(b)
}

// of answers what op answers of l, which must be one value.
func of(t *testing.T, n int, l ...api.Value) api.Value {
	t.Helper()
	out, err := op.Apply(n, l...)
	if err != api.OK || len(out) != 1 {
		t.Fatalf("%s of %+v: %+v, error %d", op.Name(n), l, out, err)
	}
	return out[0]
}

// pairs calls f with numbers at the edges, each with each, and with many others.
func pairs(f func(a, b api.Value)) {
	for _, a := range numbers() {
		for _, b := range numbers() {
			f(value.Number(a), value.Number(b))
		}
	}
	rnd := rand.New(rand.NewSource(304))
	for range 20000 {
		f(value.Number(someNumber(rnd)), value.Number(someNumber(rnd)))
	}
}

// wrapped answers the signed number that x is modulo 2^64.
func wrapped(x *big.Int) int {
	low := new(big.Int).And(x, new(big.Int).SetUint64(math.MaxUint64))
	return int(low.Uint64())
}

func TestP303AsTrueNumbers(t *testing.T) {
	pairs(func(a, b api.Value) {
		x, y := big.NewInt(int64(a.N)), big.NewInt(int64(b.N))
		moved := uint(new(big.Int).And(y, big.NewInt(63)).Uint64())
		want := map[int]*big.Int{
			op.Add: new(big.Int).Add(x, y),
			op.Sub: new(big.Int).Sub(x, y),
			op.Mul: new(big.Int).Mul(x, y),
			op.And: new(big.Int).And(x, y),
			op.Or:  new(big.Int).Or(x, y),
			op.Xor: new(big.Int).Xor(x, y),
			op.Shl: new(big.Int).Lsh(x, moved),
			op.Shr: new(big.Int).Rsh(x, moved),
		}
		if b.N != 0 {
			want[op.Div] = new(big.Int).Quo(x, y)
			want[op.Rem] = new(big.Int).Rem(x, y)
		}
		for n, w := range want {
			if got := of(t, n, a, b); got != value.Number(wrapped(w)) {
				t.Errorf("%s of %d and %d: %+v, want %d", op.Name(n), a.N, b.N, got, wrapped(w))
			}
		}
	})
}

func TestP304AddAndSub(t *testing.T) {
	pairs(func(a, b api.Value) {
		if got := of(t, op.Sub, of(t, op.Add, a, b), b); got != a {
			t.Errorf("%d add %d sub %d: %+v", a.N, b.N, b.N, got)
		}
		if got := of(t, op.Add, of(t, op.Sub, a, b), b); got != a {
			t.Errorf("%d sub %d add %d: %+v", a.N, b.N, b.N, got)
		}
	})
}

func TestP304DivAndRem(t *testing.T) {
	pairs(func(a, b api.Value) {
		if b.N == 0 {
			return
		}
		got := of(t, op.Add, of(t, op.Mul, of(t, op.Div, a, b), b), of(t, op.Rem, a, b))
		if got != a {
			t.Errorf("%d by %d and what is left: %+v", a.N, b.N, got)
		}
	})
}

func TestP304InvIsNegLess1(t *testing.T) {
	pairs(func(a, _ api.Value) {
		inv, less := of(t, op.Inv, a), of(t, op.Sub, of(t, op.Neg, a), value.Number(1))
		if inv != less {
			t.Errorf("of %d: inv %+v, neg less 1 %+v", a.N, inv, less)
		}
	})
}

func TestP304CutOfJoin(t *testing.T) {
	rnd := rand.New(rand.NewSource(305))
	for range 3000 {
		n := rnd.Intn(api.MaxValue + 1)
		a, b := value.Text(someBytes(rnd, n)), value.Text(someBytes(rnd, rnd.Intn(api.MaxValue-n+1)))
		join := of(t, op.Join, a, b)
		begin, middle, end := value.Number(0), of(t, op.Len, a), of(t, op.Len, join)
		if got := of(t, op.Cut, join, begin, middle); got != a {
			t.Errorf("the first part of %q and %q: %+v", a.B, b.B, got)
		}
		if got := of(t, op.Cut, join, middle, end); got != b {
			t.Errorf("the second part of %q and %q: %+v", a.B, b.B, got)
		}
	}
}

func TestP304JoinOfCuts(t *testing.T) {
	rnd := rand.New(rand.NewSource(306))
	for range 3000 {
		a := value.Text(someBytes(rnd, rnd.Intn(api.MaxValue+1)))
		begin, middle, end := value.Number(0), value.Number(rnd.Intn(len(a.B)+1)), of(t, op.Len, a)
		got := of(t, op.Join, of(t, op.Cut, a, begin, middle), of(t, op.Cut, a, middle, end))
		if got != a {
			t.Errorf("%q cut at %d: %+v", a.B, middle.N, got)
		}
	}
}

func TestP304UnpackOfPack(t *testing.T) {
	pairs(func(a, _ api.Value) {
		packed := of(t, op.Pack, a)
		if got := of(t, op.Unpack, packed); got != a || len(packed.B) != 8 {
			t.Errorf("%d packed as %q: %+v", a.N, packed.B, got)
		}
		if last := of(t, op.One, a); last.B != packed.B[7:] {
			t.Errorf("%d packed as %q, one: %q", a.N, packed.B, last.B)
		}
	})
}

func TestP304LessIsAnOrder(t *testing.T) {
	rnd := rand.New(rand.NewSource(307))
	yes := value.Truth(true)
	for range 20000 {
		a, b, c := value.Text(someBytes(rnd, rnd.Intn(4))), value.Text(someBytes(rnd, rnd.Intn(4))), value.Text(someBytes(rnd, rnd.Intn(4)))
		ab, ba, same := of(t, op.Less, a, b), of(t, op.Less, b, a), of(t, op.Same, a, b)
		held := 0
		for _, v := range []api.Value{ab, ba, same} {
			held += v.N
		}
		if held != 1 || (same == yes) != (a == b) {
			t.Errorf("%q and %q: less %v, turned round %v, same %v", a.B, b.B, ab.N, ba.N, same.N)
		}
		if ab == yes && of(t, op.Less, b, c) == yes && of(t, op.Less, a, c) != yes {
			t.Errorf("no order: %q %q %q", a.B, b.B, c.B)
		}
	}
}

// FuzzApply: of anything an answer of Out's types, or an error and nothing.
func FuzzApply(f *testing.F) {
	f.Add(op.Div, "1 0")
	f.Add(op.Cut, "x'616263' 1 3")
	f.Add(op.Not, "true")
	f.Fuzz(func(t *testing.T, n int, s string) {
		in, _ := value.Parse(s)
		out, err := op.Apply(n, in...)
		right := op.Plain(n) && value.Fits(in, op.In(n))
		switch {
		case right == (err == api.ErrArg):
			t.Errorf("%d of %s: error %d", n, s, err)
		case err == api.OK && !value.Fits(out, op.Out(n)), err != api.OK && len(out) != 0:
			t.Errorf("%d of %s: %+v, error %d", n, s, out, err)
		}
	})
}
