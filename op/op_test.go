package op_test

import (
	"math"
	"slices"
	"strconv"
	"strings"
	"testing"

	"weighhouse/op"
)

// table is the chapter's: op, name, A, in, out, cost.
const table = `
1 int 1 - 1 1
2 const 2 - 2 1
3 true 0 - 3 1
4 false 0 - 3 1
5 drop 0 ? - 1
6 dup 0 ? ?? 1
7 swap 0 ?? ?? 1
8 over 0 ?? ??? 1
9 get 3 - ? 1
10 set 3 ? - 1
11 add 0 11 1 1
12 sub 0 11 1 1
13 mul 0 11 1 2
14 div 0 11 1 4
15 rem 0 11 1 4
16 neg 0 1 1 1
17 and 0 11 1 1
18 or 0 11 1 1
19 xor 0 11 1 1
20 inv 0 1 1 1
21 shl 0 11 1 1
22 shr 0 11 1 1
23 eq 0 11 3 1
24 ne 0 11 3 1
25 lt 0 11 3 1
26 le 0 11 3 1
27 gt 0 11 3 1
28 ge 0 11 3 1
29 both 0 33 3 1
30 either 0 33 3 1
31 not 0 3 3 1
32 len 0 2 1 1
33 join 0 22 2 6
34 cut 0 211 2 6
35 at 0 21 1 2
36 same 0 22 3 4
37 less 0 22 3 4
38 pack 0 1 2 3
39 unpack 0 2 1 3
40 one 0 1 2 2
41 load 0 2 23 20
42 has 0 2 3 15
43 save 0 22 - 30
44 wipe 0 2 - 25
45 next 0 2 23 20
46 emit 0 2 - 10
47 abort 0 - - 1
48 if 0 3 - 1
49 else 0 - - 1
50 end 0 - - 1
51 loop 4 - - 2
52 leave 0 3 - 1
53 call 5 - - 5
`

type row struct {
	op, takes, cost int
	name            string
	in, out         []int
}

func rows(t *testing.T) []row {
	t.Helper()
	var l []row
	for line := range strings.Lines(strings.TrimSpace(table)) {
		w := strings.Fields(line)
		l = append(l, row{digits(t, w[0]), digits(t, w[2]), digits(t, w[5]), w[1], typesOf(t, w[3]), typesOf(t, w[4])})
	}
	if len(l) != 53 {
		t.Fatal(len(l), "rows")
	}
	return l
}

func digits(t *testing.T, s string) int {
	t.Helper()
	n, err := strconv.Atoi(s)
	if err != nil {
		t.Fatal(err)
	}
	return n
}

func typesOf(t *testing.T, s string) []int {
	t.Helper()
	var l []int
	for _, c := range strings.TrimPrefix(s, "-") {
		l = append(l, digits(t, strings.ReplaceAll(string(c), "?", "0")))
	}
	return l
}

// noOps are numbers that are no operation.
func noOps() []int {
	return []int{0, -1, 54, -2, 55, 256 + op.Add, 1<<32 + op.True, -op.Add, math.MinInt, math.MinInt + op.Add, math.MaxInt}
}

func TestP302Constants(t *testing.T) {
	ops := []int{
		op.PushInt, op.PushConst, op.True, op.False, op.Drop, op.Dup, op.Swap, op.Over, op.Get, op.Set,
		op.Add, op.Sub, op.Mul, op.Div, op.Rem, op.Neg, op.And, op.Or, op.Xor, op.Inv, op.Shl, op.Shr,
		op.Eq, op.Ne, op.Lt, op.Le, op.Gt, op.Ge, op.Both, op.Either, op.Not,
		op.Len, op.Join, op.Cut, op.At, op.Same, op.Less, op.Pack, op.Unpack, op.One,
		op.Load, op.Has, op.Save, op.Wipe, op.Next, op.Emit, op.Abort,
		op.If, op.Else, op.End, op.Loops, op.Leave, op.Call,
	}
	for i, n := range ops {
		if n != i+1 {
			t.Error(n, "in the place of", i+1)
		}
	}
	for i, n := range []int{op.None, op.Number, op.Const, op.Local, op.Loop, op.Func} {
		if n != i {
			t.Error(n, "in the place of", i)
		}
	}
}

func TestP302Table(t *testing.T) {
	for i, r := range rows(t) {
		if r.op != i+1 {
			t.Fatal("row", i, "is of", r.op)
		}
		if s := op.Name(r.op); s != r.name {
			t.Errorf("Name(%d): %q, want %q", r.op, s, r.name)
		}
		if n := op.Takes(r.op); n != r.takes {
			t.Errorf("Takes(%s): %d, want %d", r.name, n, r.takes)
		}
		if n := op.Cost(r.op); n != r.cost {
			t.Errorf("Cost(%s): %d, want %d", r.name, n, r.cost)
		}
		if l := op.In(r.op); !slices.Equal(l, r.in) {
			t.Errorf("In(%s): %v, want %v", r.name, l, r.in)
		}
		if l := op.Out(r.op); !slices.Equal(l, r.out) {
			t.Errorf("Out(%s): %v, want %v", r.name, l, r.out)
		}
		if n, ok := op.Find(r.name); n != r.op || !ok {
			t.Errorf("Find(%s): %d, %v", r.name, n, ok)
		}
		plain := r.op == 3 || r.op == 4 || r.op >= 11 && r.op <= 40
		if op.Plain(r.op) != plain {
			t.Errorf("Plain(%s): %v", r.name, !plain)
		}
	}
}

func TestP302NoOperation(t *testing.T) {
	for _, n := range noOps() {
		if s := op.Name(n); s != "" {
			t.Errorf("Name(%d): %q", n, s)
		}
		if a, c := op.Takes(n), op.Cost(n); a != 0 || c != 0 {
			t.Errorf("%d takes %d and costs %d", n, a, c)
		}
		if in, out := op.In(n), op.Out(n); len(in) != 0 || len(out) != 0 {
			t.Errorf("%d: %v, %v", n, in, out)
		}
		if op.Plain(n) {
			t.Error(n, "is plain")
		}
	}
}

func TestP302NoName(t *testing.T) {
	for _, s := range []string{
		"", " ", "Add", "ADD", "ad", "add ", " add", "addd", "add sub", "add\x00", "pushint", "PushInt", "loops", "abortt",
		"1", "11", "?", "-", "\xff", strings.Repeat("add", 1000),
	} {
		if n, ok := op.Find(s); n != 0 || ok {
			t.Errorf("Find(%q): %d, %v", s, n, ok)
		}
	}
}

func TestP301ListsAreNew(t *testing.T) {
	for _, r := range rows(t) {
		for _, l := range [][]int{op.In(r.op), op.Out(r.op)} {
			for i := range l[:cap(l)] {
				l[:cap(l)][i] = 99
			}
		}
		if in, out := op.In(r.op), op.Out(r.op); !slices.Equal(in, r.in) || !slices.Equal(out, r.out) {
			t.Errorf("%s: %v, %v behind a change of an answer", r.name, in, out)
		}
	}
}
