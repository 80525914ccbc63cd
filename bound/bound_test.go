package bound_test

import (
	"math"
	"slices"
	"strings"
	"testing"

	"weighhouse/api"
	"weighhouse/asm"
	"weighhouse/bound"
	"weighhouse/op"
)

const tooMuch = api.MaxGas + 1

// read answers the instructions of a text whose lines are parted by " / ".
func read(t *testing.T, text string) []api.Instr {
	t.Helper()
	var c []api.Instr
	if text == "" {
		return c
	}
	for _, line := range strings.Split(text, " / ") {
		x, ok := asm.Read(line)
		if !ok {
			t.Fatalf("%q: no instruction's line: %q", text, line)
		}
		c = append(c, x)
	}
	return c
}

func trues(n int) []api.Instr {
	return slices.Repeat([]api.Instr{{Op: op.True}}, n)
}

// short answers instructions in a form that fits into a test's words.
func short(c []api.Instr) any {
	if len(c) > 100 {
		return len(c)
	}
	return c
}

func wantPart(t *testing.T, c []api.Instr, want int, callees ...int) {
	t.Helper()
	if n, e := bound.Part(c, callees); e != api.OK || n != want {
		t.Errorf("Part(%v, %v): %d, error %d, want %d", short(c), callees, n, e, want)
	}
}

func wantBad(t *testing.T, c []api.Instr, want api.Errno, callees ...int) {
	t.Helper()
	if n, e := bound.Part(c, callees); e != want || n != 0 {
		t.Errorf("Part(%v, %v): %d, error %d, want error %d", short(c), callees, n, e, want)
	}
}

// costs are those of the chapter's table, of what costs more than 1.
var costs = map[int]int{
	op.Mul: 2, op.Div: 4, op.Rem: 4, op.Join: 6, op.Cut: 6, op.At: 2, op.Same: 4, op.Less: 4, op.Pack: 3, op.Unpack: 3, op.One: 2,
	op.Load: 20, op.Has: 15, op.Save: 30, op.Wipe: 25, op.Next: 20, op.Emit: 10, op.Loops: 2, op.Call: 5,
}

// cost answers what an operation costs, by itself.
func cost(o int) int {
	switch n, more := costs[o]; {
	case more:
		return n
	case o < op.PushInt || o > op.Call:
		return 0
	}
	return 1
}

// plain are operations that open and close no block, lead nowhere and call
// nobody.
func plain() []int {
	var l []int
	for o := op.PushInt; o <= op.Abort; o++ {
		l = append(l, o)
	}
	return l
}

// noOps are numbers of operations that are none.
func noOps() []int {
	return []int{0, -1, -48, op.Call + 1, 255, 256 + op.If, 1<<32 + op.Loops, 1<<32 + op.Call, math.MinInt, math.MaxInt}
}

func TestP902Example(t *testing.T) {
	wantPart(t, read(t, "loop 3 / int 1 / drop / end"), 11)
}

func TestP902EachOperation(t *testing.T) {
	for _, o := range append(plain(), noOps()...) {
		n := cost(o)
		for _, a := range []int{0, 1, -1, math.MaxInt, math.MinInt} {
			x := api.Instr{Op: o, A: a}
			wantPart(t, []api.Instr{x}, n)
			wantPart(t, []api.Instr{x, x, x}, 3*n)
			wantPart(t, []api.Instr{{Op: op.If}, x, {Op: op.End}}, 2+n)
			wantPart(t, []api.Instr{{Op: op.If}, x, {Op: op.Else}, x, x, {Op: op.End}}, 2+2*n)
			wantPart(t, []api.Instr{{Op: op.Loops, A: 7}, x, {Op: op.End}}, 9+7*n)
		}
	}
	var all []api.Instr
	most := 0
	for _, o := range plain() {
		all = append(all, api.Instr{Op: o})
		most += cost(o)
	}
	wantPart(t, all, most)
}

// TestP902OnlyItsOwnA: the number of an instruction that is no call and no loop
// does not count, whatever it is.
func TestP902OnlyItsOwnA(t *testing.T) {
	for _, a := range []int{-1, 1, 99, math.MinInt, math.MaxInt} {
		wantPart(t, []api.Instr{{Op: op.If, A: a}, {Op: op.True}, {Op: op.Else, A: a}, {Op: op.End, A: a}}, 3)
		wantPart(t, []api.Instr{{Op: op.Loops, A: 2}, {Op: op.Leave, A: a}, {Op: op.End, A: a}}, 6)
	}
}

// blocks are instructions without calls, and their bounds.
var blocks = map[string]int{
	"": 0,
	// an if without an else
	"if / end":                              2,
	"true / if / end":                       3,
	"if / mul / end":                        4,
	"if / mul / end / save":                 34,
	"if / if / end / end":                   4,
	"if / if / mul / end / div / end":       10,
	"if / end / if / end / if / mul / end":  8,
	"if / if / if / load / end / end / end": 26,
	// with one, the greater part on either side
	"if / else / end":                                   2,
	"if / mul / else / end":                             4,
	"if / else / mul / end":                             4,
	"if / mul / else / div / end":                       6,
	"if / div / else / mul / end":                       6,
	"if / div / else / div / end":                       6,
	"if / save / else / load / end / has":               47,
	"if / load / else / save / end / has":               47,
	"if / true / true / true / else / mul / end":        5,
	"if / mul / else / true / true / true / end":        5,
	"if / if / mul / else / div / end / else / end":     8,
	"if / else / if / mul / else / div / end / end":     8,
	"if / if / mul / end / else / if / div / end / end": 8,
	"if / if / else / mul / end / else / div / end":     6,
	"if / if / else / mul / end / else / join / end":    8,
	"if / if / save / else / end / else / load / end":   34,
	"if / save / else / end / if / else / load / end":   54,
	// loops
	"loop 0 / end":                                       2,
	"loop 1 / end":                                       3,
	"loop 2 / end":                                       4,
	"loop 64 / end":                                      66,
	"loop 65 / end":                                      67,
	"loop 0 / save / end":                                2,
	"loop 0 / save / end / mul":                          4,
	"loop 1 / save / end":                                33,
	"loop 64 / div / end":                                322,
	"loop 3 / loop 5 / end / end":                        26,
	"loop 3 / loop 5 / mul / end / end":                  56,
	"loop 3 / loop 5 / mul / end / div / end":            68,
	"loop 3 / div / loop 5 / mul / end / end":            68,
	"loop 3 / loop 0 / mul / end / end":                  11,
	"loop 0 / loop 3 / mul / end / end":                  2,
	"loop 2 / loop 3 / loop 4 / true / end / end / end":  74,
	"loop 2 / loop 3 / end / loop 4 / true / end / end":  34,
	"loop 2 / end / loop 3 / end":                        9,
	"loop 3 / true / leave / end":                        11,
	"loop 3 / leave / save / end":                        98,
	"loop 2 / loop 3 / true / leave / end / leave / end": 28,
	// ifs within loops, loops within ifs
	"loop 3 / if / mul / end / end":                                  17,
	"loop 3 / if / mul / else / div / end / end":                     23,
	"loop 3 / if / div / else / mul / end / end":                     23,
	"loop 3 / true / if / true / leave / end / end":                  20,
	"loop 3 / if / leave / else / leave / leave / end / end":         17,
	"if / loop 3 / mul / end / end":                                  13,
	"if / loop 3 / mul / end / else / div / end":                     13,
	"if / div / else / loop 3 / mul / end / end":                     13,
	"if / loop 2 / mul / end / else / loop 3 / true / end / end":     10,
	"if / loop 0 / save / end / else / mul / true / end":             5,
	"loop 2 / if / loop 3 / if / mul / else / end / end / end / end": 42,
}

func TestP902Blocks(t *testing.T) {
	for text, want := range blocks {
		wantPart(t, read(t, text), want)
	}
}

// TestP902Deepest: as many blocks within one another as may be.
func TestP902Deepest(t *testing.T) {
	nested := func(opener string, n int) []api.Instr {
		return read(t, strings.Repeat(opener+" / ", n)+"mul"+strings.Repeat(" / end", n))
	}
	wantPart(t, nested("if", api.MaxBlocks), 2+2*api.MaxBlocks)
	wantPart(t, nested("loop 1", api.MaxBlocks), 2+3*api.MaxBlocks)
	wantPart(t, nested("loop 2", api.MaxBlocks), 6<<api.MaxBlocks-4)
	wantPart(t, nested("if / else", api.MaxBlocks), 2+2*api.MaxBlocks)
	wantBad(t, nested("if", api.MaxBlocks+1), api.ErrShape)
	wantBad(t, nested("loop 1", api.MaxBlocks+1), api.ErrShape)
}

func TestP902Calls(t *testing.T) {
	for _, c := range []struct {
		text    string
		callees []int
		want    int
	}{
		{"call 0", []int{0}, 5},
		{"call 0", []int{7}, 12},
		{"call 0", []int{7, 100, 1000}, 12},
		{"call 1", []int{7, 100, 1000}, 105},
		{"call 2", []int{7, 100, 1000}, 1005},
		{"call 0 / call 0", []int{7}, 24},
		{"call 0 / call 1 / call 2", []int{7, 100, 1000}, 1122},
		{"call 2 / call 0 / call 2", []int{7, 100, 1000}, 2022},
		{"mul / call 1 / save", []int{7, 100}, 137},
		// within blocks
		{"if / call 1 / end", []int{7, 100}, 107},
		{"if / call 0 / else / call 1 / end", []int{7, 100}, 107},
		{"if / call 1 / else / call 0 / end", []int{7, 100}, 107},
		{"if / call 1 / else / save / end", []int{7, 24}, 32},
		{"if / call 1 / else / save / end", []int{7, 26}, 33},
		{"loop 3 / call 0 / end", []int{7}, 41},
		{"loop 3 / loop 2 / call 1 / end / call 0 / end", []int{7, 100}, 2 + 3*(2+2*106+12+1)},
		{"loop 0 / call 0 / end", []int{7}, 2},
		{"loop 3 / call 0 / leave / end / call 1", []int{7, 100}, 2 + 3*14 + 105},
		// bounds that nobody's call asks for
		{"", []int{7, 100}, 0},
		{"mul", []int{7, 100}, 2},
	} {
		wantPart(t, read(t, c.text), c.want, c.callees...)
	}
}

// TestP902ManyCallees: there may be more than a script has functions.
func TestP902ManyCallees(t *testing.T) {
	const many = 1000
	var callees []int
	for n := range many {
		callees = append(callees, 3*n)
	}
	for _, f := range []int{0, 1, api.MaxFuncs - 1, api.MaxFuncs, 255, 256, many - 1} {
		wantPart(t, []api.Instr{{Op: op.Call, A: f}}, 5+3*f, callees...)
	}
	wantBad(t, []api.Instr{{Op: op.Call, A: many}}, api.ErrArg, callees...)
}

// edge has gas around where it is cut, and what counts for it.
var edge = map[int]int{
	api.MaxGas - 1: api.MaxGas - 1, api.MaxGas: api.MaxGas, api.MaxGas + 1: tooMuch, api.MaxGas + 2: tooMuch,
	2 * api.MaxGas: tooMuch, 1 << 31: tooMuch, 1 << 32: tooMuch, 1<<32 + 8: tooMuch, 1 << 62: tooMuch, math.MaxInt - 6: tooMuch, math.MaxInt: tooMuch,
}

func TestP902CutByCallee(t *testing.T) {
	for gas, want := range edge {
		wantPart(t, read(t, "call 0"), want, gas-5)
		wantPart(t, read(t, "call 1"), want, 0, gas-5, math.MaxInt)
		wantPart(t, read(t, "mul / call 0 / true"), want, gas-8)
		wantPart(t, read(t, "if / call 0 / end"), want, gas-7)
		wantPart(t, read(t, "if / call 0 / else / save / end"), want, gas-7)
		wantPart(t, read(t, "if / save / else / call 0 / end"), want, gas-7)
		wantPart(t, read(t, "loop 1 / call 0 / end"), want, gas-8)
	}
	for _, gas := range []int{api.MaxGas, tooMuch, math.MaxInt} {
		wantPart(t, read(t, "call 0 / call 0"), tooMuch, gas)
		wantPart(t, read(t, "call 0 / call 1 / call 0 / call 1"), tooMuch, gas, math.MaxInt)
		wantPart(t, read(t, "loop 64 / call 0 / end"), tooMuch, gas)
		wantPart(t, read(t, "if / call 0 / else / call 1 / end"), tooMuch, gas, math.MaxInt)
		wantPart(t, read(t, "if / call 1 / else / call 0 / end / call 1"), tooMuch, gas, math.MaxInt)
	}
}

func TestP902CutByLoop(t *testing.T) {
	for gas, want := range edge {
		wantPart(t, []api.Instr{{Op: op.Loops, A: gas - 2}, {Op: op.End}}, want)
		wantPart(t, []api.Instr{{Op: op.True}, {Op: op.Loops, A: gas - 8}, {Op: op.End}, {Op: op.Call}}, want, 0)
	}
	// rounds of more than one: what is next to MaxGas
	wantPart(t, read(t, "loop 524287 / true / end"), api.MaxGas)
	wantPart(t, read(t, "loop 524287 / true / end / true"), tooMuch)
	wantPart(t, read(t, "loop 524288 / true / end"), tooMuch)
	for _, a := range []int{1 << 21, 1 << 31, 1 << 32, 1 << 43, 1 << 44, 1 << 61, 1 << 62, math.MaxInt - 1, math.MaxInt} {
		for _, within := range []string{"", "true / ", "mul / true / ", "save / ", "call 0 / ", "loop 3 / call 1 / end / "} {
			c := append([]api.Instr{{Op: op.Loops, A: a}}, read(t, within+"end")...)
			wantPart(t, c, tooMuch, 11, math.MaxInt)
		}
	}
}

func TestP902CutByLoopsWithinLoops(t *testing.T) {
	nested := func(a, n int) []api.Instr {
		return append(slices.Repeat([]api.Instr{{Op: op.Loops, A: a}}, n), slices.Repeat([]api.Instr{{Op: op.End}}, n)...)
	}
	wantPart(t, nested(64, 1), 66)
	wantPart(t, nested(64, 2), 2+64*67)
	wantPart(t, nested(64, 3), 2+64*(2+64*67+1))
	for n := 4; n <= api.MaxBlocks; n++ {
		wantPart(t, nested(64, n), tooMuch)
	}
	for _, a := range []int{1 << 10, 1 << 20, 1 << 31, 1 << 32, 1 << 40, 1 << 62, math.MaxInt} {
		for n := 3; n <= api.MaxBlocks; n++ {
			wantPart(t, nested(a, n), tooMuch)
		}
	}
}

func TestP902CutByManyParts(t *testing.T) {
	wantPart(t, trues(api.MaxGas-1), api.MaxGas-1)
	wantPart(t, trues(api.MaxGas), api.MaxGas)
	wantPart(t, trues(api.MaxGas+1), tooMuch)
	wantPart(t, trues(api.MaxGas+2), tooMuch)
	wantPart(t, trues(2*api.MaxGas), tooMuch)
	wantPart(t, slices.Repeat(read(t, "if / save / else / mul / end"), 1<<15), api.MaxGas)
	wantPart(t, slices.Repeat(read(t, "if / save / else / mul / end"), 1<<15+1), tooMuch)
	wantPart(t, slices.Repeat(read(t, "loop 3 / has / end"), 1<<16), tooMuch)
	wantPart(t, slices.Repeat(read(t, "call 0"), 1<<14), api.MaxGas, 59)
	wantPart(t, slices.Repeat(read(t, "call 0"), 1<<14), tooMuch, 60)
	wantPart(t, slices.Repeat(read(t, "call 0"), 1<<14), tooMuch, math.MaxInt)
}

// TestP902NoRoundOfTooMuch: a loop of no rounds takes its cost alone, however
// much stands within.
func TestP902NoRoundOfTooMuch(t *testing.T) {
	wantPart(t, read(t, "loop 0 / call 0 / end"), 2, math.MaxInt)
	wantPart(t, read(t, "loop 0 / loop 9223372036854775807 / call 0 / end / end / mul"), 4, math.MaxInt)
	wantPart(t, read(t, "loop 9223372036854775807 / loop 0 / call 0 / end / end"), tooMuch, math.MaxInt)
	wantPart(t, read(t, "loop 5 / loop 0 / call 0 / end / end"), 17, math.MaxInt)
}

// TestP902TooMuchOnOneSide: the other side of an else does not make it less.
func TestP902TooMuchOnOneSide(t *testing.T) {
	for _, gas := range []int{tooMuch, 1 << 40, math.MaxInt} {
		wantPart(t, read(t, "if / call 0 / else / end"), tooMuch, gas)
		wantPart(t, read(t, "if / else / call 0 / end"), tooMuch, gas)
		wantPart(t, read(t, "if / mul / else / call 0 / end / mul"), tooMuch, gas)
		wantPart(t, read(t, "loop 2 / if / call 0 / else / mul / end / end"), tooMuch, gas)
	}
}

// badShapes are instructions that are not of good shape.
var badShapes = []string{
	"if", "else", "end", "loop 3", "leave", "loop 0", "if / else", "else / end", "end / if", "end / loop 2 / end", "if / end / end",
	"if / else / else / end", "loop 2 / else / end", "if / loop 2 / else / end / end", "leave / loop 2 / end", "loop 2 / end / leave",
	"if / leave / end", "if / if / end", "loop 2 / loop 2 / end", "true / end", "loop 2 / leave", "if / true / else / true",
}

func TestP902BadShape(t *testing.T) {
	for _, text := range badShapes {
		c := read(t, text)
		wantBad(t, c, api.ErrShape)
		wantBad(t, c, api.ErrShape, 1, 2, 3)
		wantBad(t, append(trues(1000), c...), api.ErrShape)
		wantBad(t, append(c, trues(1000)...), api.ErrShape)
	}
	wantBad(t, slices.Repeat([]api.Instr{{Op: op.If}}, 1<<16), api.ErrShape)
	wantBad(t, slices.Repeat([]api.Instr{{Op: op.Loops, A: 2}}, 1<<16), api.ErrShape)
	wantBad(t, slices.Repeat([]api.Instr{{Op: op.End}}, 1<<16), api.ErrShape)
}

// noPlaces are numbers that none of n places has.
func noPlaces(n int) []int {
	return []int{-1, -2, -n - 1, n, n + 1, 2*n + 1, n + 256, n + 1<<16, n + 1<<32, 1 << 40, -1 << 32, math.MinInt, math.MinInt + 1, math.MaxInt, math.MaxInt - 1}
}

// around hands instructions that hold x, at different places, to visit.
func around(t *testing.T, x api.Instr, visit func(c []api.Instr)) {
	for _, parts := range [][2]string{
		{"", ""},
		{"mul / true", "save"},
		{"if", "end"},
		{"if / mul / else", "end"},
		{"if / save", "else / save / end"},
		{"loop 3", "end"},
		{"loop 0", "end"},
		{"loop 0 / if / loop 2", "end / end / end / mul"},
		{"loop 2 / true / leave", "end"},
		{"abort", ""},
	} {
		visit(slices.Concat(read(t, parts[0]), []api.Instr{x}, read(t, parts[1])))
	}
}

func TestP902NoSuchCallee(t *testing.T) {
	for _, callees := range [][]int{nil, {}, {0}, {7, 8}, make([]int, api.MaxFuncs), make([]int, 1000)} {
		for _, a := range noPlaces(len(callees)) {
			around(t, api.Instr{Op: op.Call, A: a}, func(c []api.Instr) {
				wantBad(t, c, api.ErrArg, callees...)
			})
		}
	}
	wantBad(t, read(t, "call 0 / call 1 / call 2"), api.ErrArg, 7, 8)
	wantBad(t, read(t, "call 2 / call 1 / call 0"), api.ErrArg, 7, 8)
}

func TestP902CalleeBelow0(t *testing.T) {
	for _, below := range []int{-1, -2, -api.MaxGas, -1 << 32, math.MinInt, math.MinInt + 1} {
		for at := range 4 {
			callees := []int{7, 0, 9, math.MaxInt}
			callees[at] = below
			for _, text := range []string{"", "mul", "if / mul / else / end", "call 0", "call 1 / call 2", "loop 3 / call 3 / end", "call 0 / call 1 / call 2 / call 3", "loop 0 / call 1 / end"} {
				wantBad(t, read(t, text), api.ErrArg, callees...)
			}
		}
		wantBad(t, nil, api.ErrArg, below)
		wantBad(t, []api.Instr{}, api.ErrArg, below, below)
		wantBad(t, read(t, "call 0"), api.ErrArg, append(make([]int, 1000), below)...)
	}
}

func TestP902LoopBelow0(t *testing.T) {
	for _, a := range []int{-1, -2, -64, -1 << 32, math.MinInt, math.MinInt + 1} {
		for _, within := range []string{"", "mul / ", "call 0 / ", "true / leave / ", "loop 2 / end / "} {
			c := append([]api.Instr{{Op: op.Loops, A: a}}, read(t, within+"end")...)
			wantBad(t, c, api.ErrArg, 7)
			wantBad(t, slices.Concat(read(t, "loop 0"), c, read(t, "end")), api.ErrArg, 7)
			wantBad(t, slices.Concat(read(t, "loop 2 / if"), c, read(t, "else / save / end / end")), api.ErrArg, 7)
			wantBad(t, slices.Concat(c, read(t, "loop 2 / end")), api.ErrArg, 7)
		}
	}
}

// TestP902SeveralErrors: the shape's is told first; ErrArg is told also where
// the gas is too much.
func TestP902SeveralErrors(t *testing.T) {
	for _, text := range badShapes {
		c := read(t, text)
		wantBad(t, c, api.ErrShape, -1)
		wantBad(t, append(read(t, "call 0"), c...), api.ErrShape)
		wantBad(t, append(c, read(t, "call -1")...), api.ErrShape, 7)
		wantBad(t, append(read(t, "loop -1 / end / call 9"), c...), api.ErrShape, 7, math.MinInt)
	}
	wantBad(t, read(t, "loop -1"), api.ErrShape)
	wantBad(t, read(t, "loop -1 / else / end"), api.ErrShape)
	wantBad(t, read(t, "loop -1 / call 9 / end"), api.ErrArg, -1)
	wantBad(t, read(t, "loop -1 / call 0 / end"), api.ErrArg, math.MaxInt)
	wantBad(t, read(t, "call 0 / call 1"), api.ErrArg, math.MaxInt)
	wantBad(t, read(t, "call 0 / call 0"), api.ErrArg, math.MaxInt, -1)
	for _, text := range []string{"call 0", "loop -1 / end", "loop 0 / call -1 / end"} {
		wantBad(t, append(trues(2*api.MaxGas), read(t, text)...), api.ErrArg)
	}
}
