package bound_test

import (
	"math"
	"slices"
	"strings"
	"testing"

	"weighhouse/api"
	"weighhouse/asm"
	"weighhouse/bound"
	"weighhouse/op"
)

// parse answers the script of a text whose lines are parted by " / ".
func parse(t *testing.T, text string) api.Script {
	t.Helper()
	s, bad := asm.Parse(strings.ReplaceAll(text, " / ", "\n") + "\n")
	if bad != 0 {
		t.Fatalf("%q: line %d", text, bad)
	}
	return s
}

// script answers one of functions with these instructions, and nothing else.
func script(funcs ...[]api.Instr) api.Script {
	var s api.Script
	for _, c := range funcs {
		s.Funcs = append(s.Funcs, api.Func{Code: c})
	}
	return s
}

func wantFuncs(t *testing.T, s api.Script, want ...int) {
	t.Helper()
	if l, e := bound.Funcs(s); e != api.OK || !slices.Equal(l, want) {
		t.Errorf("%q: Funcs %v, error %d, want %v", asm.Print(s), l, e, want)
	}
}

func wantTotal(t *testing.T, s api.Script, want int) {
	t.Helper()
	if n, e := bound.Total(s); e != api.OK || n != want {
		t.Errorf("%q: Total %d, error %d, want %d", asm.Print(s), n, e, want)
	}
}

func wantTooMuch(t *testing.T, s api.Script) {
	t.Helper()
	if n, e := bound.Total(s); e != api.ErrGas || n != 0 {
		t.Errorf("%q: Total %d, error %d", asm.Print(s), n, e)
	}
}

// wantBounds: of all functions, and of the first one, as Total tells it.
func wantBounds(t *testing.T, s api.Script, want ...int) {
	t.Helper()
	wantFuncs(t, s, want...)
	if want[0] > api.MaxGas {
		wantTooMuch(t, s)
		return
	}
	wantTotal(t, s, want[0])
}

func wantNone(t *testing.T, s api.Script, want api.Errno) {
	t.Helper()
	if l, e := bound.Funcs(s); e != want || len(l) != 0 {
		t.Errorf("%+v: Funcs %v, error %d, want error %d", s, l, e, want)
	}
	if n, e := bound.Total(s); e != want || n != 0 {
		t.Errorf("%+v: Total %d, error %d, want error %d", s, n, e, want)
	}
}

func TestP902Scripts(t *testing.T) {
	for text, want := range map[string][]int{
		"func -> ;": {0},
		"func -> ; / loop 3 / int 1 / drop / end":                                               {11},
		"func -> ; / func -> ;":                                                                 {0, 0},
		"func -> ; / mul / func -> ; / save":                                                    {2, 30},
		"func -> ; / call 1 / func -> ;":                                                        {5, 0},
		"func -> ; / call 1 / func -> ; / save":                                                 {35, 30},
		"func -> ; / save / func -> ; / call 0":                                                 {30, 35},
		"func -> ; / call 1 / call 1 / func -> ; / mul":                                         {14, 2},
		"func -> ; / call 2 / call 1 / func -> ; / mul / func -> ; / save":                      {42, 2, 30},
		"func -> ; / loop 3 / call 1 / end / func -> ; / loop 2 / mul / end":                    {2 + 3*(5+8+1), 8},
		"func -> ; / if / call 1 / else / call 2 / end / func -> ; / mul / func -> ; / div":     {11, 2, 4},
		"func -> ; / if / call 2 / else / call 1 / end / func -> ; / mul / func -> ; / div":     {11, 2, 4},
		"func -> ; / abort / call 1 / func -> ; / mul":                                          {8, 2},
		"func -> ; / loop 1 / true / leave / call 1 / end / func -> ; / mul":                    {12, 2},
		"func int -> int bool ; bytes / get 0 / get 0 / func bool -> ; / set 0":                 {2, 1},
		"const x'61' / const x'' / func -> bytes ; / const 1 / const 0 / join":                  {8},
		"func -> ; / call 3 / func -> ; / call 2 / func -> ; / mul / func -> ; / call 1 / true": {18, 7, 2, 13},
	} {
		wantBounds(t, parse(t, text), want...)
	}
}

// chain answers a script of MaxFuncs functions, in which each calls the next one
// so often, and the last one is c.
func chain(often int, c []api.Instr) api.Script {
	var s api.Script
	for f := range api.MaxFuncs - 1 {
		calls := slices.Repeat([]api.Instr{{Op: op.Call, A: f + 1}}, often)
		s.Funcs = append(s.Funcs, api.Func{Code: calls})
	}
	s.Funcs = append(s.Funcs, api.Func{Code: c})
	return s
}

// TestP902Chain: each function calls the next one once, twice or thrice.
func TestP902Chain(t *testing.T) {
	for _, c := range []struct{ often, last int }{{1, 0}, {1, 3}, {1, 250}, {2, 0}, {2, 3}, {2, 100}, {3, 0}, {3, 1}} {
		want := make([]int, api.MaxFuncs)
		want[api.MaxFuncs-1] = c.last
		for f := api.MaxFuncs - 2; f >= 0; f-- {
			want[f] = min(c.often*(5+want[f+1]), tooMuch)
		}
		s := chain(c.often, trues(c.last))
		wantBounds(t, s, want...)
		// the same turned round: each calls the one ahead of it
		slices.Reverse(s.Funcs)
		slices.Reverse(want)
		for f := range s.Funcs {
			for i, x := range s.Funcs[f].Code {
				if x.Op == op.Call {
					s.Funcs[f].Code[i].A = api.MaxFuncs - 1 - x.A
				}
			}
		}
		wantBounds(t, s, want...)
	}
}

func TestP902Tree(t *testing.T) {
	const text = "func -> ; / call 1 / call 2 / func -> ; / call 3 / call 4 / func -> ; / call 5 / call 6" +
		" / func -> ; / mul / func -> ; / div / func -> ; / join / func -> ; / emit"
	wantBounds(t, parse(t, text), 52, 16, 26, 2, 4, 6, 10)
	// two ways to one
	const joined = "func -> ; / call 1 / call 2 / func -> ; / call 3 / func -> ; / call 3 / call 3 / func -> ; / emit"
	wantBounds(t, parse(t, joined), 55, 15, 30, 10)
}

// TestP902EachOfAll: the last function of MaxFuncs has a bound of its own for
// each caller.
func TestP902EachOfAll(t *testing.T) {
	var s api.Script
	var want []int
	for f := range api.MaxFuncs {
		c := trues(f)
		if f < api.MaxFuncs-1 {
			c = append(c, api.Instr{Op: op.Call, A: api.MaxFuncs - 1})
		}
		s.Funcs = append(s.Funcs, api.Func{Code: c})
		want = append(want, f+5+api.MaxFuncs-1)
	}
	want[api.MaxFuncs-1] = api.MaxFuncs - 1
	wantBounds(t, s, want...)
}

// exactly answers instructions of a script that may be, whose bound is gas.
func exactly(gas int) []api.Instr {
	const least = 2 + api.MaxLoop // of a loop of MaxLoop rounds
	if gas < least {
		return trues(gas)
	}
	round := (gas - 2) / api.MaxLoop
	return slices.Concat(
		[]api.Instr{{Op: op.Loops, A: api.MaxLoop}}, exactly(round-1), []api.Instr{{Op: op.End}},
		trues(gas-2-api.MaxLoop*round))
}

func TestP902Exactly(t *testing.T) {
	for _, gas := range []int{0, 1, 2, 64, 65, 66, 67, 130, 131, 1000, 4290, 5000, 1 << 16, 1<<20 - 7} {
		wantBounds(t, script(exactly(gas)), gas)
	}
}

func TestP902JustAtMaxGas(t *testing.T) {
	const most = api.MaxGas
	wantBounds(t, script(exactly(most-1)), most-1)
	wantBounds(t, script(exactly(most)), most)
	wantBounds(t, script(exactly(most+1)), tooMuch)
	wantBounds(t, script(exactly(most+2)), tooMuch)
	wantBounds(t, script(exactly(3*most)), tooMuch)
	call := []api.Instr{{Op: op.Call, A: 1}}
	wantBounds(t, script(call, exactly(most-5)), most, most-5)
	wantBounds(t, script(call, exactly(most-4)), tooMuch, most-4)
	wantBounds(t, script(call, exactly(most)), tooMuch, most)
	wantBounds(t, script(call, exactly(most+1)), tooMuch, tooMuch)
	wantBounds(t, script(read(t, "call 1 / call 2"), exactly(most/2-5), exactly(most/2-5)), most, most/2-5, most/2-5)
	wantBounds(t, script(read(t, "call 1 / call 2"), exactly(most/2-5), exactly(most/2-4)), tooMuch, most/2-5, most/2-4)
	wantBounds(t, script(read(t, "call 1 / call 1 / true"), exactly(most/2-5)), tooMuch, most/2-5)
}

// TestP902OthersAboveMaxGas: Total is told, whatever the others' bounds are, if
// the first one does not call them.
func TestP902OthersAboveMaxGas(t *testing.T) {
	wantBounds(t, script(nil, exactly(tooMuch)), 0, tooMuch)
	wantBounds(t, script(exactly(api.MaxGas), read(t, "call 0")), api.MaxGas, tooMuch)
	wantBounds(t, script(read(t, "call 2"), read(t, "call 3"), nil, exactly(5*api.MaxGas)), 5, tooMuch, 0, tooMuch)
	wantBounds(t, script(read(t, "call 2"), nil, read(t, "call 3"), exactly(tooMuch)), tooMuch, 0, tooMuch, tooMuch)
}

// TestP902FarAbove: the most that a script can take.
func TestP902FarAbove(t *testing.T) {
	loops := slices.Repeat([]api.Instr{{Op: op.Loops, A: api.MaxLoop}}, api.MaxBlocks)
	ends := slices.Repeat([]api.Instr{{Op: op.End}}, api.MaxBlocks)
	var s api.Script
	for f := range api.MaxFuncs {
		c := trues(api.MaxCode - 2*api.MaxBlocks)
		if f < api.MaxFuncs-1 {
			c = slices.Repeat([]api.Instr{{Op: op.Call, A: f + 1}}, api.MaxCode-2*api.MaxBlocks)
		}
		s.Funcs = append(s.Funcs, api.Func{Code: slices.Concat(loops, c, ends)})
	}
	wantBounds(t, s, slices.Repeat([]int{tooMuch}, api.MaxFuncs)...)
}

// wrongScripts are some that may not be.
func wrongScripts() map[string]api.Script {
	one := func(f api.Func) api.Script { return api.Script{Funcs: []api.Func{f}} }
	return map[string]api.Script{
		"no function":                {},
		"a constant, and nothing":    {Consts: []string{"a"}},
		"an empty list of functions": {Funcs: []api.Func{}},
		"too many functions":         {Funcs: make([]api.Func, api.MaxFuncs+1)},
		"too many constants":         {Consts: make([]string, api.MaxConsts+1), Funcs: make([]api.Func, 1)},
		"too long a constant":        {Consts: []string{strings.Repeat("a", api.MaxValue+1)}, Funcs: make([]api.Func, 1)},
		"too many Params":            one(api.Func{Params: slices.Repeat([]int{1}, api.MaxTypes+1)}),
		"too many Results":           one(api.Func{Results: slices.Repeat([]int{1}, api.MaxTypes+1)}),
		"too many Locals":            one(api.Func{Locals: slices.Repeat([]int{1}, api.MaxLocals+1)}),
		"a type 4":                   one(api.Func{Locals: []int{4}}),
		"too much code":              script(trues(api.MaxCode + 1)),
		"an operation 0":             script([]api.Instr{{}}),
		"an operation 54":            script([]api.Instr{{Op: op.Call + 1}}),
		"a number too much":          script([]api.Instr{{Op: op.True, A: 1}}),
		"no such constant":           script([]api.Instr{{Op: op.PushConst}}),
		"no such slot":               script([]api.Instr{{Op: op.Get}}),
		"no such function":           script([]api.Instr{{Op: op.Call, A: 1}}),
		"a huge function":            script([]api.Instr{{Op: op.Call, A: math.MaxInt}}),
		"a function below 0":         script([]api.Instr{{Op: op.Call, A: -1}}),
		"no round":                   script([]api.Instr{{Op: op.Loops, A: 0}, {Op: op.End}}),
		"rounds below 0":             script([]api.Instr{{Op: op.Loops, A: -1}, {Op: op.End}}),
		"a round too much":           script([]api.Instr{{Op: op.Loops, A: api.MaxLoop + 1}, {Op: op.End}}),
		"huge rounds":                script([]api.Instr{{Op: op.Loops, A: math.MaxInt}, {Op: op.End}}),
		"the other one is wrong":     script(nil, []api.Instr{{Op: -1}}),
		"wrong, and goes round":      script([]api.Instr{{Op: op.Call}, {Op: op.Call, A: 1}}),
		"goes round, and one wrong":  script([]api.Instr{{Op: op.Call}}, []api.Instr{{Op: op.Loops}, {Op: op.End}}),
		"wrong, and of bad shape":    script([]api.Instr{{Op: op.If}, {Op: op.Loops}}),
		"of bad shape, and wrong":    script([]api.Instr{{Op: op.End}}, []api.Instr{{}}),
		"all at once":                script([]api.Instr{{Op: op.End}, {Op: op.Call}, {Op: op.Call, A: 9}}),
		"too much gas, and wrong":    script(exactly(tooMuch), []api.Instr{{}}),
	}
}

func TestP902WrongScript(t *testing.T) {
	for what, s := range wrongScripts() {
		wantNone(t, s, api.ErrScript)
		if t.Failed() {
			t.Fatal(what)
		}
	}
}

func TestP902Round(t *testing.T) {
	for _, text := range []string{
		"func -> ; / call 0",
		"func -> ; / func -> ; / call 1",
		"func -> ; / call 1 / func -> ; / call 0",
		"func -> ; / call 1 / func -> ; / call 2 / func -> ; / call 1",
		"func -> ; / mul / func -> ; / call 2 / func -> ; / call 3 / func -> ; / call 1",
		"func -> ; / abort / call 0",
		"func -> ; / if / call 0 / end",
		"func -> ; / loop 2 / if / else / call 0 / end / end",
		// told ahead of bad shape, wherever that is
		"func -> ; / if / call 0",
		"func -> ; / end / call 0",
		"func -> ; / else / func -> ; / call 1",
		"func -> ; / call 0 / func -> ; / if",
		"func -> ; / call 1 / func -> ; / leave / call 0",
	} {
		wantNone(t, parse(t, text), api.ErrCall)
	}
	long := chain(1, []api.Instr{{Op: op.Call}})
	wantNone(t, long, api.ErrCall)
	// and ahead of too much gas
	wantNone(t, script(exactly(tooMuch), read(t, "call 1")), api.ErrCall)
	wantNone(t, script(append(exactly(tooMuch), read(t, "call 0")...)), api.ErrCall)
}

func TestP902FunctionOfBadShape(t *testing.T) {
	for _, text := range badShapes {
		if text == "loop 0" { // it may not be in a script
			continue
		}
		bad := read(t, text)
		wantNone(t, script(bad), api.ErrShape)
		wantNone(t, script(bad, nil), api.ErrShape)
		wantNone(t, script(nil, bad), api.ErrShape)
		wantNone(t, script(bad, bad, bad), api.ErrShape)
		wantNone(t, script(read(t, "call 1"), bad), api.ErrShape)
		wantNone(t, script(bad, read(t, "call 0")), api.ErrShape)
		wantNone(t, script(read(t, "call 1"), nil, bad), api.ErrShape)
		wantNone(t, script(slices.Concat(read(t, "call 1"), bad), read(t, "mul")), api.ErrShape)
		wantNone(t, chain(1, bad), api.ErrShape)
		// told ahead of too much gas
		wantNone(t, script(exactly(tooMuch), bad), api.ErrShape)
		wantNone(t, script(bad, exactly(tooMuch)), api.ErrShape)
		wantNone(t, script(slices.Concat(exactly(tooMuch), bad)), api.ErrShape)
	}
}

// TestP902TypesDoNotCount: what stands on the stack is no matter of gas.
func TestP902TypesDoNotCount(t *testing.T) {
	for text, want := range map[string]int{
		"func -> int ;":                        0,
		"func -> ; / add / not / cut":          8,
		"func -> ; / int 1 / if / end":         3,
		"func -> ; / loop 2 / int 1 / end":     6,
		"func bool -> ; bytes / get 1 / set 0": 2,
	} {
		wantBounds(t, parse(t, text), want)
	}
}
