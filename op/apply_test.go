package op_test

import (
	"math"
	"slices"
	"strings"
	"testing"

	"weighhouse/api"
	"weighhouse/op"
	"weighhouse/value"
)

const (
	least    = "-9223372036854775808"
	greatest = "9223372036854775807"
)

// bytesOf answers the text of n bytes 6d.
func bytesOf(n int) string {
	return "x'" + strings.Repeat("6d", n) + "'"
}

func parsed(t *testing.T, s string) []api.Value {
	t.Helper()
	l, err := value.Parse(s)
	if err != api.OK {
		t.Fatalf("%q: error %d", s, err)
	}
	return l
}

func wantAnswer(t *testing.T, n int, in, want string) {
	t.Helper()
	l, err := op.Apply(n, parsed(t, in)...)
	if err != api.OK || len(l) != 1 || value.Print(l...) != want {
		t.Errorf("%s of %s: %+v, error %d, want %s", op.Name(n), in, l, err, want)
	}
}

func wantFault(t *testing.T, n int, want api.Errno, l ...api.Value) {
	t.Helper()
	out, err := op.Apply(n, l...)
	if err != want || len(out) != 0 {
		t.Errorf("operation %d of %+v: %+v, error %d, want %d", n, l, out, err, want)
	}
}

type question struct {
	op       int
	in, want string
}

func wantAnswers(t *testing.T, l ...question) {
	t.Helper()
	for _, q := range l {
		wantAnswer(t, q.op, q.in, q.want)
	}
}

func TestP303Numbers(t *testing.T) {
	wantAnswers(t, []question{
		{op.Add, "2 3", "5"}, {op.Add, "-2 3", "1"}, {op.Add, greatest + " 1", least}, {op.Add, least + " -1", greatest}, {op.Add, least + " " + least, "0"},
		{op.Sub, "2 3", "-1"}, {op.Sub, "3 2", "1"}, {op.Sub, least + " 1", greatest}, {op.Sub, "0 " + least, least}, {op.Sub, "-1 " + least, greatest}, {op.Sub, greatest + " -1", least},
		{op.Mul, "6 -7", "-42"}, {op.Mul, least + " -1", least}, {op.Mul, greatest + " 2", "-2"}, {op.Mul, "4294967296 4294967296", "0"}, {op.Mul, least + " " + least, "0"},
		{op.Div, "7 2", "3"}, {op.Div, "-7 2", "-3"}, {op.Div, "7 -2", "-3"}, {op.Div, "-7 -2", "3"}, {op.Div, "0 5", "0"}, {op.Div, least + " -1", least}, {op.Div, least + " 1", least}, {op.Div, "1 " + least, "0"}, {op.Div, least + " " + least, "1"},
		{op.Rem, "7 2", "1"}, {op.Rem, "-7 2", "-1"}, {op.Rem, "7 -2", "1"}, {op.Rem, "-7 -2", "-1"}, {op.Rem, "0 5", "0"}, {op.Rem, least + " -1", "0"}, {op.Rem, "-1 " + least, "-1"}, {op.Rem, least + " " + greatest, "-1"},
		{op.Neg, "5", "-5"}, {op.Neg, "-5", "5"}, {op.Neg, "0", "0"}, {op.Neg, least, least}, {op.Neg, greatest, "-9223372036854775807"},
	}...)
}

func TestP303Bits(t *testing.T) {
	wantAnswers(t, []question{
		{op.And, "12 10", "8"}, {op.And, "-1 7", "7"}, {op.And, least + " " + greatest, "0"}, {op.And, "-2 -3", "-4"},
		{op.Or, "12 10", "14"}, {op.Or, "-8 7", "-1"}, {op.Or, least + " " + greatest, "-1"},
		{op.Xor, "12 10", "6"}, {op.Xor, "-1 5", "-6"}, {op.Xor, least + " -1", greatest},
		{op.Inv, "0", "-1"}, {op.Inv, "-1", "0"}, {op.Inv, "5", "-6"}, {op.Inv, least, greatest},
		{op.Shl, "1 0", "1"}, {op.Shl, "1 1", "2"}, {op.Shl, "3 62", "-4611686018427387904"}, {op.Shl, "1 63", least}, {op.Shl, "3 63", least}, {op.Shl, "2 63", "0"},
		{op.Shl, "5 64", "5"}, {op.Shl, "5 65", "10"}, {op.Shl, "1 -1", least}, {op.Shl, "1 -63", "2"}, {op.Shl, "7 -64", "7"}, {op.Shl, "7 " + least, "7"}, {op.Shl, "1 " + greatest, least},
		{op.Shr, "8 0", "8"}, {op.Shr, "8 1", "4"}, {op.Shr, "7 1", "3"}, {op.Shr, "-8 1", "-4"}, {op.Shr, "-7 1", "-4"}, {op.Shr, "-1 63", "-1"}, {op.Shr, least + " 63", "-1"}, {op.Shr, greatest + " 62", "1"}, {op.Shr, greatest + " 63", "0"},
		{op.Shr, "5 64", "5"}, {op.Shr, "-5 65", "-3"}, {op.Shr, least + " -1", "-1"}, {op.Shr, "8 -63", "4"}, {op.Shr, "7 " + least, "7"}, {op.Shr, least + " " + greatest, "-1"},
	}...)
}

func TestP303Comparisons(t *testing.T) {
	// what is asked of a lesser and a greater one, of two alike, and turned round
	for n, want := range map[int][3]string{
		op.Eq: {"false", "true", "false"},
		op.Ne: {"true", "false", "true"},
		op.Lt: {"true", "false", "false"},
		op.Le: {"true", "true", "false"},
		op.Gt: {"false", "false", "true"},
		op.Ge: {"false", "true", "true"},
	} {
		for _, p := range [][2]string{{"1", "2"}, {"-1", "0"}, {"-2", "-1"}, {least, greatest}, {least, "0"}, {"0", greatest}, {"255", "256"}} {
			a, b := p[0], p[1]
			wantAnswer(t, n, a+" "+b, want[0])
			wantAnswer(t, n, a+" "+a, want[1])
			wantAnswer(t, n, b+" "+b, want[1])
			wantAnswer(t, n, b+" "+a, want[2])
		}
	}
}

func TestP303Truths(t *testing.T) {
	wantAnswers(t, []question{
		{op.True, "", "true"}, {op.False, "", "false"},
		{op.Both, "false false", "false"}, {op.Both, "false true", "false"}, {op.Both, "true false", "false"}, {op.Both, "true true", "true"},
		{op.Either, "false false", "false"}, {op.Either, "false true", "true"}, {op.Either, "true false", "true"}, {op.Either, "true true", "true"},
		{op.Not, "false", "true"}, {op.Not, "true", "false"},
	}...)
}

func TestP303Bytes(t *testing.T) {
	most := bytesOf(api.MaxValue)
	wantAnswers(t, []question{
		{op.Len, "x''", "0"}, {op.Len, "x'00'", "1"}, {op.Len, "x'c3a9'", "2"}, {op.Len, most, "256"},
		{op.Join, "x'' x''", "x''"}, {op.Join, "x'61' x''", "x'61'"}, {op.Join, "x'' x'61'", "x'61'"}, {op.Join, "x'6162' x'63ff'", "x'616263ff'"},
		{op.Join, most + " x''", most}, {op.Join, "x'' " + most, most}, {op.Join, bytesOf(255) + " x'6d'", most}, {op.Join, bytesOf(128) + " " + bytesOf(128), most},
		{op.Cut, "x'616263' 1 3", "x'6263'"}, {op.Cut, "x'616263' 0 3", "x'616263'"}, {op.Cut, "x'616263' 0 1", "x'61'"}, {op.Cut, "x'616263' 2 3", "x'63'"},
		{op.Cut, "x'616263' 0 0", "x''"}, {op.Cut, "x'616263' 1 1", "x''"}, {op.Cut, "x'616263' 3 3", "x''"}, {op.Cut, "x'' 0 0", "x''"}, {op.Cut, most + " 0 256", most}, {op.Cut, most + " 256 256", "x''"},
		{op.At, "x'616263' 0", "97"}, {op.At, "x'616263' 2", "99"}, {op.At, "x'00' 0", "0"}, {op.At, "x'c3a9' 1", "169"}, {op.At, "x'ff' 0", "255"}, {op.At, most + " 255", "109"},
	}...)
}

func TestP303BytesCompared(t *testing.T) {
	l := []string{"x''", "x'00'", "x'0000'", "x'61'", "x'6100'", "x'6161'", "x'62'", "x'7f'", "x'80'", "x'ff'", "x'ff00'"}
	for i, a := range l {
		for j, b := range l {
			wantAnswer(t, op.Same, a+" "+b, value.Print(value.Truth(i == j)))
			wantAnswer(t, op.Less, a+" "+b, value.Print(value.Truth(i < j)))
		}
	}
}

func TestP303Packs(t *testing.T) {
	wantAnswers(t, []question{
		{op.Pack, "0", "x'0000000000000000'"}, {op.Pack, "1", "x'0000000000000001'"}, {op.Pack, "-1", "x'ffffffffffffffff'"}, {op.Pack, "-2", "x'fffffffffffffffe'"},
		{op.Pack, "72623859790382856", "x'0102030405060708'"}, {op.Pack, least, "x'8000000000000000'"}, {op.Pack, greatest, "x'7fffffffffffffff'"},
		{op.Unpack, "x''", "0"}, {op.Unpack, "x'00'", "0"}, {op.Unpack, "x'ff'", "255"}, {op.Unpack, "x'0100'", "256"}, {op.Unpack, "x'000001'", "1"},
		{op.Unpack, "x'ffffffffffffff'", "72057594037927935"}, {op.Unpack, "x'80000000000000'", "36028797018963968"},
		{op.Unpack, "x'ffffffffffffffff'", "-1"}, {op.Unpack, "x'8000000000000000'", least}, {op.Unpack, "x'7fffffffffffffff'", greatest}, {op.Unpack, "x'0102030405060708'", "72623859790382856"},
		{op.One, "0", "x'00'"}, {op.One, "255", "x'ff'"}, {op.One, "256", "x'00'"}, {op.One, "257", "x'01'"}, {op.One, "-1", "x'ff'"}, {op.One, "-255", "x'01'"}, {op.One, "-256", "x'00'"}, {op.One, least, "x'00'"}, {op.One, greatest, "x'ff'"}, {op.One, "128", "x'80'"},
	}...)
}

func TestP303Faults(t *testing.T) {
	most := bytesOf(api.MaxValue)
	for _, c := range []struct {
		op  int
		err api.Errno
		in  []string
	}{
		{op.Div, api.ErrZero, []string{"1 0", "0 0", "-1 0", least + " 0", greatest + " 0"}},
		{op.Rem, api.ErrZero, []string{"1 0", "0 0", "-1 0", least + " 0", greatest + " 0"}},
		{op.Join, api.ErrLong, []string{most + " x'6d'", "x'6d' " + most, bytesOf(128) + " " + bytesOf(129), most + " " + most}},
		{op.Unpack, api.ErrLong, []string{"x'000000000000000001'", "x'000000000000000000'", "x'ffffffffffffffffff'", bytesOf(16), most}},
		{op.Cut, api.ErrIndex, []string{
			"x'616263' 2 1", "x'616263' -1 0", "x'616263' -1 -1", "x'616263' -2 -1", "x'616263' 0 -1", "x'616263' 0 4", "x'616263' 3 4", "x'616263' 4 4", "x'616263' 4 3",
			"x'' 0 1", "x'' 1 1", "x'' 1 0", "x'616263' " + least + " 1", "x'616263' 0 " + greatest, "x'616263' " + greatest + " " + least, "x'616263' " + least + " " + least,
			"x'616263' " + greatest + " " + greatest, most + " 0 257", most + " 256 255"}},
		{op.At, api.ErrIndex, []string{"x'' 0", "x'616263' 3", "x'616263' -1", "x'616263' -3", "x'616263' 4", "x'616263' " + least, "x'616263' " + greatest, most + " 256"}},
	} {
		for _, s := range c.in {
			wantFault(t, c.op, c.err, parsed(t, s)...)
		}
	}
}

// samples has of each type two values that may be, by which each operation
// that takes such values has an answer.
func samples() map[int][]api.Value {
	return map[int][]api.Value{
		api.Int:   {value.Number(1), value.Number(2)},
		api.Bytes: {value.Text("abc"), value.Text("")},
		api.Bool:  {value.Truth(false), value.Truth(true)},
	}
}

// sample answers values that op takes, and has an answer of.
func sample(types []int) []api.Value {
	var l []api.Value
	for i, k := range types {
		l = append(l, samples()[k][max(i-1, 0)])
	}
	return l
}

// wrongOnes are values that may not be.
func wrongOnes() []api.Value {
	l := []api.Value{
		{}, {Type: 4}, {Type: -1}, {Type: math.MinInt}, {Type: math.MaxInt}, {Type: 256 + api.Int, N: 1}, {N: 1}, {B: "a"},
		{Type: api.Int, N: 1, B: "a"},
		{Type: api.Bytes, N: 1}, {Type: api.Bytes, N: -1, B: "a"}, {Type: api.Bytes, B: strings.Repeat("m", api.MaxValue+1)}, {Type: api.Bytes, B: strings.Repeat("m", 1<<20)},
		{Type: api.Bool, N: 2}, {Type: api.Bool, N: -1}, {Type: api.Bool, N: math.MaxInt}, {Type: api.Bool, B: "a"}, {Type: api.Bool, N: 1, B: "\x00"},
	}
	return l
}

func plainOnes(t *testing.T) []row {
	t.Helper()
	return slices.DeleteFunc(rows(t), func(r row) bool { return !op.Plain(r.op) })
}

func TestP303OfOutsTypes(t *testing.T) {
	for _, r := range plainOnes(t) {
		l, err := op.Apply(r.op, sample(r.in)...)
		if err != api.OK || !value.Fits(l, r.out) {
			t.Errorf("%s: %+v, error %d", r.name, l, err)
		}
	}
}

func TestP303NotPlain(t *testing.T) {
	some := [][]api.Value{
		nil, {}, {value.Number(1)}, {value.Text("a")}, {value.Truth(true)}, {value.Number(1), value.Number(0)},
		{value.Text("a"), value.Text("b")}, {{}}, {{}, {}}, slices.Repeat([]api.Value{value.Number(1)}, 1000),
	}
	for _, n := range noOps() {
		for _, l := range some {
			wantFault(t, n, api.ErrArg, l...)
		}
	}
	for _, r := range rows(t) {
		if op.Plain(r.op) {
			continue
		}
		for _, l := range some {
			wantFault(t, r.op, api.ErrArg, l...)
		}
		if !slices.Contains(r.in, 0) {
			wantFault(t, r.op, api.ErrArg, sample(r.in)...)
		}
	}
}

func TestP303TooManyTooFew(t *testing.T) {
	for _, r := range plainOnes(t) {
		l := sample(r.in)
		for n := range l {
			wantFault(t, r.op, api.ErrArg, l[:n]...)
			wantFault(t, r.op, api.ErrArg, l[n+1:]...)
		}
		for _, more := range samples() {
			wantFault(t, r.op, api.ErrArg, append(slices.Clone(l), more[0])...)
			wantFault(t, r.op, api.ErrArg, append(more[:1:1], l...)...)
		}
		wantFault(t, r.op, api.ErrArg, slices.Repeat(sample([]int{1}), 1<<16)...)
	}
}

func TestP303OtherTypes(t *testing.T) {
	for _, r := range plainOnes(t) {
		for i, k := range r.in {
			l := sample(r.in)
			for other, vs := range samples() {
				if other != k {
					l[i] = vs[0]
					wantFault(t, r.op, api.ErrArg, l...)
				}
			}
			for _, v := range wrongOnes() {
				l[i] = v
				wantFault(t, r.op, api.ErrArg, l...)
			}
		}
	}
}

// TestP303ArgFirst: a value that may not be comes ahead of what else is wrong.
func TestP303ArgFirst(t *testing.T) {
	long := value.Text(strings.Repeat("m", api.MaxValue+1))
	wantFault(t, op.Div, api.ErrArg, api.Value{Type: api.Int, B: "a"}, value.Number(0))
	wantFault(t, op.Rem, api.ErrArg, value.Truth(true), value.Number(0))
	wantFault(t, op.Div, api.ErrArg, value.Number(1), value.Number(0), value.Number(0))
	wantFault(t, op.Join, api.ErrArg, long, value.Text(""))
	wantFault(t, op.Join, api.ErrArg, value.Text("a"), long)
	wantFault(t, op.Unpack, api.ErrArg, long)
	wantFault(t, op.Cut, api.ErrArg, long, value.Number(2), value.Number(1))
	wantFault(t, op.At, api.ErrArg, long, value.Number(-1))
}

func TestP301NothingChanged(t *testing.T) {
	for _, r := range plainOnes(t) {
		room := append(sample(r.in), value.Number(7), value.Text("behind"))
		kept := slices.Clone(room)
		first, _ := op.Apply(r.op, room[:len(r.in)]...)
		want := slices.Clone(first)
		if !slices.Equal(room, kept) {
			t.Error(r.name, "changed what it was given")
		}
		for i := range first[:cap(first)] {
			first[:cap(first)][i] = api.Value{Type: 9}
		}
		if !slices.Equal(room, kept) {
			t.Error(r.name, "answered what it was given")
		}
		if again, err := op.Apply(r.op, room[:len(r.in)]...); err != api.OK || !slices.Equal(again, want) {
			t.Error(r.name, "is another one behind a change of an answer")
		}
	}
}
