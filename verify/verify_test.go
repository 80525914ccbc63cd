package verify_test

import (
	"math"
	"slices"
	"strings"
	"testing"

	"weighhouse/api"
	"weighhouse/asm"
	"weighhouse/code"
	"weighhouse/op"
	"weighhouse/value"
	"weighhouse/verify"
)

// parse answers the script of a text whose lines are parted by " / ".
func parse(t *testing.T, text string) api.Script {
	t.Helper()
	s, bad := asm.Parse(strings.ReplaceAll(text, " / ", "\n") + "\n")
	if bad != 0 {
		t.Fatalf("%q: line %d", text, bad)
	}
	return s
}

// script answers one of functions with these instructions, and nothing else.
func script(funcs ...[]api.Instr) api.Script {
	var s api.Script
	for _, c := range funcs {
		s.Funcs = append(s.Funcs, api.Func{Code: c})
	}
	return s
}

func put(t *testing.T, s api.Script) []byte {
	t.Helper()
	b, e := code.Put(s)
	if e != api.OK {
		t.Fatalf("%+v: no bytes, error %d", s, e)
	}
	return b
}

// needs is what a report tells beside the script.
type needs struct {
	gas                        int
	stacks, deep, order, rooms []int
}

func (n needs) are(r verify.Report) bool {
	return r.Gas == n.gas && slices.Equal(r.Stacks, n.stacks) && slices.Equal(r.Deep, n.deep) &&
		slices.Equal(r.Order, n.order) && slices.Equal(r.Rooms, n.rooms)
}

// wantReport holds Of s, and Check of its bytes, to what it needs.
func wantReport(t *testing.T, s api.Script, want needs) {
	t.Helper()
	r, e := verify.Of(s)
	if e != api.OK || !want.are(r) || !code.Same(r.Script, s) {
		t.Errorf("%q: Of %+v, error %d, want %+v", asm.Print(s), r, e, want)
	}
	r, e = verify.Check(put(t, s))
	if e != api.OK || !want.are(r) || !code.Same(r.Script, s) {
		t.Errorf("%q: Check %+v, error %d, want %+v", asm.Print(s), r, e, want)
	}
}

// isZero answers whether a report is a zero one: its lists have no elements.
func isZero(r verify.Report) bool {
	return needs{}.are(r) && code.Same(r.Script, api.Script{})
}

// wantError holds Of s to an error, and Check of its bytes, if it has some.
func wantError(t *testing.T, s api.Script, want api.Errno) {
	t.Helper()
	if r, e := verify.Of(s); e != want || !isZero(r) {
		t.Errorf("%+v: Of %+v, error %d, want %d", s, r, e, want)
	}
	b, e := code.Put(s)
	if e != api.OK {
		return
	}
	if r, e := verify.Check(b); e != want || !isZero(r) {
		t.Errorf("%q: Check %+v, error %d, want %d", asm.Print(s), r, e, want)
	}
}

func TestP1002Example(t *testing.T) {
	r, e := verify.Check([]byte{0, 1, 0, 0, 0, 0, 0})
	want := needs{0, []int{0}, []int{1}, []int{0}, []int{0}}
	if e != api.OK || !want.are(r) || !code.Same(r.Script, api.Script{Funcs: make([]api.Func, 1)}) {
		t.Errorf("Check of a function that does nothing: %+v, error %d", r, e)
	}
	wantReport(t, api.Script{Funcs: make([]api.Func, 1)}, want)
}

func TestP1002OneFunction(t *testing.T) {
	one := func(gas, stack, room int) needs {
		return needs{gas, []int{stack}, []int{1}, []int{0}, []int{room}}
	}
	for text, want := range map[string]needs{
		"func -> int ; / int 6 / int 7 / mul":                                        one(4, 2, 2),
		"func int -> int ; / get 0 / dup / mul":                                      one(4, 2, 3),
		"func int bytes bool -> ;":                                                   one(0, 0, 3),
		"func -> ; int bytes bool int":                                               one(0, 0, 4),
		"func bool bool -> ; int":                                                    one(0, 0, 3),
		"func bytes -> bytes ; bytes / get 0 / set 1 / get 1 / get 1 / join":         one(10, 2, 4),
		"const x'61' / func -> ; / const 0 / int 1 / true / drop / drop / drop":      one(6, 3, 3),
		"const x'61' / func -> bool bytes int ; / true / const 0 / int 1":            one(3, 3, 3),
		"func bytes -> int ; / get 0 / load / if / len / else / unpack / end":        one(26, 2, 3),
		"func bool -> ; / get 0 / if / int 1 / dup / dup / drop / drop / drop / end": one(9, 3, 4),
		"func -> ; int / loop 64 / get 0 / int 1 / add / set 0 / end":                one(322, 2, 3),
		"func -> ; / loop 3 / true / leave / end":                                    one(11, 1, 1),
		"func -> ; / abort": one(1, 0, 0),
	} {
		wantReport(t, parse(t, text), want)
	}
}

// TestP1002Calls: chains, trees and lone functions, with calls in blocks.
func TestP1002Calls(t *testing.T) {
	for _, c := range []struct {
		text string
		want needs
	}{
		{"func int -> int ; bool / get 0 / call 1 / func int -> int ; / get 0 / dup / add",
			needs{9, []int{1, 2}, []int{2, 1}, []int{1, 0}, []int{6, 3}}},
		// two that call nobody
		{"func -> ; / func -> ; int", needs{0, []int{0, 0}, []int{1, 1}, []int{0, 1}, []int{0, 1}}},
		// one that nobody calls is told as well
		{"func -> ; / true / drop / func -> ; bool / call 0",
			needs{2, []int{1, 0}, []int{1, 2}, []int{0, 1}, []int{1, 2}}},
		// a chain
		{"func -> ; int / call 1 / func -> ; int int / call 2 / func -> ; int int int / true / drop",
			needs{12, []int{0, 0, 1}, []int{3, 2, 1}, []int{2, 1, 0}, []int{7, 6, 4}}},
		// the greatest room is that of the last callee, of the first, of the middle one
		{"func -> ; / call 1 / call 2 / func -> ; int / func -> ; int int",
			needs{10, []int{0, 0, 0}, []int{2, 1, 1}, []int{1, 2, 0}, []int{2, 1, 2}}},
		{"func -> ; / call 1 / call 2 / func -> ; int int / func -> ; int",
			needs{10, []int{0, 0, 0}, []int{2, 1, 1}, []int{1, 2, 0}, []int{2, 2, 1}}},
		{"func -> ; / call 3 / call 2 / call 1 / func -> ; int / func -> ; int int int / func -> ; int int",
			needs{15, []int{0, 0, 0, 0}, []int{2, 1, 1, 1}, []int{1, 2, 3, 0}, []int{3, 1, 3, 2}}},
		// the deepest callee is not the one of the greatest room
		{"func -> ; / call 1 / call 2 / func -> ; int int int int int / func -> ; / call 3 / func -> ; int",
			needs{15, []int{0, 0, 0, 0}, []int{3, 1, 2, 1}, []int{1, 3, 2, 0}, []int{5, 5, 1, 1}}},
		// a callee's room counts once, however often it is called
		{"func -> ; bool / call 1 / call 1 / loop 4 / call 1 / end / func -> ; int / int 1 / drop",
			needs{48, []int{0, 1}, []int{2, 1}, []int{1, 0}, []int{3, 2}}},
		// calls within blocks, in either part
		{"func bool -> ; / get 0 / if / call 1 / else / call 2 / end / func -> ; / true / true / drop / drop / func -> ; int int int",
			needs{12, []int{1, 2, 0}, []int{2, 1, 1}, []int{1, 2, 0}, []int{5, 2, 3}}},
		{"func bool -> ; / loop 2 / get 0 / if / end / get 0 / leave / loop 3 / call 1 / end / end / func -> ; bool / get 0 / set 0",
			needs{2 + 2*(3+2+2+3*8+1), []int{1, 1}, []int{2, 1}, []int{1, 0}, []int{4, 2}}},
		// what stands behind an abort is called as well
		{"func -> ; / abort / call 1 / func -> ; int int", needs{6, []int{0, 0}, []int{2, 1}, []int{1, 0}, []int{2, 2}}},
		// stacks of several types, Params and Results of calls
		{"const x'61' / func int bytes -> bytes bool ; / const 0 / get 0 / get 1 / call 1 / swap / drop / func int bytes -> int bool ; bytes / get 1 / set 2 / get 0 / get 2 / has",
			needs{3 + 5 + 2 + 4 + 15, []int{3, 2}, []int{2, 1}, []int{1, 0}, []int{10, 5}}},
		// two ways to one function
		{"func -> ; / call 1 / call 2 / func -> ; int / call 3 / func -> ; bool bool / call 3 / func -> ; / true / drop",
			needs{24, []int{0, 0, 0, 1}, []int{3, 2, 2, 1}, []int{3, 1, 2, 0}, []int{3, 2, 3, 1}}},
	} {
		wantReport(t, parse(t, c.text), c.want)
	}
}

// TestP1002Longest: as many functions as may be, each calling the next one, and
// each with as many slots and as high a stack as may be.
func TestP1002Longest(t *testing.T) {
	var s api.Script
	var want needs
	for f := range api.MaxFuncs {
		c := slices.Concat(slices.Repeat([]api.Instr{{Op: op.True}}, api.MaxStack), slices.Repeat([]api.Instr{{Op: op.Drop}}, api.MaxStack))
		want.gas += 2 * api.MaxStack
		if f < api.MaxFuncs-1 {
			c = append(c, api.Instr{Op: op.Call, A: f + 1})
			want.gas += 5
		}
		left := api.MaxFuncs - f
		s.Funcs = append(s.Funcs, api.Func{Locals: slices.Repeat([]int{api.Bytes}, api.MaxLocals), Code: c})
		want.stacks = append(want.stacks, api.MaxStack)
		want.deep = append(want.deep, left)
		want.order = append(want.order, left-1)
		want.rooms = append(want.rooms, left*(api.MaxLocals+api.MaxStack))
	}
	wantReport(t, s, want)
}

// exactly answers instructions that take and leave nothing, and whose bound is
// gas.
func exactly(gas int) []api.Instr {
	const least = 2 + api.MaxLoop // of a loop of MaxLoop rounds
	if gas < least {
		return slices.Repeat([]api.Instr{{Op: op.Abort}}, gas)
	}
	round := (gas - 2) / api.MaxLoop
	return slices.Concat(
		[]api.Instr{{Op: op.Loops, A: api.MaxLoop}}, exactly(round-1), []api.Instr{{Op: op.End}},
		exactly(gas-2-api.MaxLoop*round))
}

func TestP1002MostGas(t *testing.T) {
	one := func(gas int) needs { return needs{gas, []int{0}, []int{1}, []int{0}, []int{0}} }
	for _, gas := range []int{api.MaxGas - 1, api.MaxGas} {
		wantReport(t, script(exactly(gas)), one(gas))
	}
	for _, gas := range []int{api.MaxGas + 1, api.MaxGas + 2, 2 * api.MaxGas} {
		wantError(t, script(exactly(gas)), api.ErrGas)
	}
	call := []api.Instr{{Op: op.Call, A: 1}}
	wantReport(t, script(call, exactly(api.MaxGas-5)), needs{api.MaxGas, []int{0, 0}, []int{2, 1}, []int{1, 0}, []int{0, 0}})
	wantError(t, script(call, exactly(api.MaxGas-4)), api.ErrGas)
	wantError(t, script(call, exactly(api.MaxGas)), api.ErrGas)
	wantError(t, script(call, exactly(api.MaxGas+1)), api.ErrGas)
	loops := slices.Repeat([]api.Instr{{Op: op.Loops, A: api.MaxLoop}}, api.MaxBlocks)
	wantError(t, script(append(loops, slices.Repeat([]api.Instr{{Op: op.End}}, api.MaxBlocks)...)), api.ErrGas)
}

// TestP1002OthersGas: only the first function's bound is asked, with what it
// calls.
func TestP1002OthersGas(t *testing.T) {
	wantReport(t, script(nil, exactly(api.MaxGas+1)), needs{0, []int{0, 0}, []int{1, 1}, []int{0, 1}, []int{0, 0}})
	wantReport(t, script(exactly(api.MaxGas), []api.Instr{{Op: op.Call}}),
		needs{api.MaxGas, []int{0, 0}, []int{1, 2}, []int{0, 1}, []int{0, 0}})
}

func TestP1002Errors(t *testing.T) {
	for text, want := range map[string]api.Errno{
		// blocks
		"func -> ; / true / if":                        api.ErrShape,
		"func -> ; / end":                              api.ErrShape,
		"func -> ; / else":                             api.ErrShape,
		"func -> ; / loop 2":                           api.ErrShape,
		"func -> ; / true / leave":                     api.ErrShape,
		"func -> ; / true / drop / func -> ; / loop 1": api.ErrShape,
		// stacks
		"func -> ; / add":                                        api.ErrStack,
		"func -> ; / int 1":                                      api.ErrStack,
		"func -> int ;":                                          api.ErrStack,
		"func -> ; / loop 2 / int 1 / end":                       api.ErrStack,
		"func -> ; / true / if / int 1 / else / end":             api.ErrStack,
		"func -> ; / call 1 / func int -> ;":                     api.ErrStack,
		"func -> ; / func -> ; / drop":                           api.ErrStack,
		"func -> ; / int 1 / not / drop":                         api.ErrType,
		"func -> int ; / true":                                   api.ErrType,
		"func -> ; bool / int 1 / set 0":                         api.ErrType,
		"func -> int ; / true / if / int 1 / else / true / end":  api.ErrType,
		"func -> ; / true / call 1 / func int -> ;":              api.ErrType,
		"func -> ; / func bytes -> int ; / get 0":                api.ErrType,
		"func -> ; / func -> ; / func -> ; / int 1 / if / end":   api.ErrType,
		"func -> ; / int 1 / loop 2 / drop / true / leave / end": api.ErrStack,
		// rounds
		"func -> ; / call 0":                                              api.ErrCall,
		"func -> ; / func -> ; / call 1":                                  api.ErrCall,
		"func -> ; / call 1 / func -> ; / call 0":                         api.ErrCall,
		"func -> ; / call 1 / func -> ; / call 2 / func -> ; / call 1":    api.ErrCall,
		"func -> ; / abort / true / if / else / call 0 / end":             api.ErrCall,
		"func int -> ; / get 0 / call 1 / func int -> ; / get 0 / call 0": api.ErrCall,
		// gas
		"func -> ; / loop 64 / loop 64 / loop 64 / loop 64 / end / end / end / end": api.ErrGas,
	} {
		wantError(t, parse(t, text), want)
	}
}

func TestP1002StackTooHigh(t *testing.T) {
	high := func(n int) api.Script {
		return script(slices.Concat(slices.Repeat([]api.Instr{{Op: op.True}}, n), slices.Repeat([]api.Instr{{Op: op.Drop}}, n)))
	}
	wantReport(t, high(api.MaxStack), needs{2 * api.MaxStack, []int{api.MaxStack}, []int{1}, []int{0}, []int{api.MaxStack}})
	wantError(t, high(api.MaxStack+1), api.ErrStack)
}

// fault is a function in which something is wrong, and what is told of it.
type fault struct {
	e api.Errno
	f func(at int) api.Func
}

// faults are in the order in which they are told: those of one rank by the
// order of the functions.
func faults() [][]fault {
	code := func(l ...api.Instr) func(int) api.Func {
		return func(int) api.Func { return api.Func{Code: l} }
	}
	itself := func(at int) api.Func { return api.Func{Code: []api.Instr{{Op: op.Call, A: at}}} }
	return [][]fault{
		{{api.ErrScript, code(api.Instr{})}, {api.ErrScript, func(int) api.Func { return api.Func{Locals: []int{4}} }}},
		{{api.ErrShape, code(api.Instr{Op: op.End})}, {api.ErrStack, code(api.Instr{Op: op.Add})},
			{api.ErrType, code(api.Instr{Op: op.True}, api.Instr{Op: op.Neg}, api.Instr{Op: op.Drop})}},
		{{api.ErrCall, itself}},
	}
}

// TestP1002OrderOfErrors: functions with faults, in all orders, behind a first
// one that takes too much gas, or is right.
func TestP1002OrderOfErrors(t *testing.T) {
	ranks := faults()
	var all []fault
	rank := map[api.Errno]int{}
	for n, l := range ranks {
		for _, f := range l {
			all, rank[f.e] = append(all, f), n
		}
	}
	var grow func(s api.Script, want api.Errno)
	grow = func(s api.Script, want api.Errno) {
		if want != api.OK {
			wantError(t, s, want)
		}
		if len(s.Funcs) == 4 || t.Failed() {
			return
		}
		for _, f := range all {
			told := want
			if r, there := rank[want]; !there || rank[f.e] < r {
				told = f.e
			}
			more := code.Clone(s)
			more.Funcs = append(more.Funcs, f.f(len(s.Funcs)))
			grow(more, told)
		}
	}
	grow(api.Script{}, api.OK)
	grow(script(nil), api.OK)
	grow(script(exactly(api.MaxGas+1)), api.ErrGas)
}

// TestP1002OneFunctionsErrors: one function with several faults.
func TestP1002OneFunctionsErrors(t *testing.T) {
	gas, round := exactly(api.MaxGas+1), []api.Instr{{Op: op.Call}}
	few, shape, wrong := []api.Instr{{Op: op.Add}}, []api.Instr{{Op: op.Loops, A: 1}}, []api.Instr{{Op: op.Call, A: 1}}
	for _, c := range []struct {
		want  api.Errno
		parts [][]api.Instr
	}{
		{api.ErrGas, [][]api.Instr{gas}},
		{api.ErrCall, [][]api.Instr{gas, round}},
		{api.ErrCall, [][]api.Instr{round, gas}},
		{api.ErrStack, [][]api.Instr{gas, round, few}},
		{api.ErrStack, [][]api.Instr{few, round, gas}},
		{api.ErrShape, [][]api.Instr{gas, round, few, shape}},
		{api.ErrShape, [][]api.Instr{shape, gas, round, few}},
		{api.ErrScript, [][]api.Instr{gas, round, few, shape, wrong}},
		{api.ErrScript, [][]api.Instr{wrong, shape, few, round, gas}},
		{api.ErrScript, [][]api.Instr{gas, wrong}},
		{api.ErrScript, [][]api.Instr{round, wrong}},
	} {
		wantError(t, script(slices.Concat(c.parts...)), c.want)
	}
}

// wrongScripts are some that may not be.
func wrongScripts() map[string]api.Script {
	one := func(f api.Func) api.Script { return api.Script{Funcs: []api.Func{f}} }
	code := func(l ...api.Instr) api.Script { return one(api.Func{Code: l}) }
	return map[string]api.Script{
		"no function":                {},
		"a constant, and nothing":    {Consts: []string{"a"}},
		"an empty list of functions": {Consts: []string{}, Funcs: []api.Func{}},
		"too many functions":         {Funcs: make([]api.Func, api.MaxFuncs+1)},
		"too many constants":         {Consts: make([]string, api.MaxConsts+1), Funcs: make([]api.Func, 1)},
		"too long a constant":        {Consts: []string{strings.Repeat("a", api.MaxValue+1)}, Funcs: make([]api.Func, 1)},
		"too many Params":            one(api.Func{Params: slices.Repeat([]int{1}, api.MaxTypes+1)}),
		"too many Results":           one(api.Func{Results: slices.Repeat([]int{1}, api.MaxTypes+1)}),
		"too many Locals":            one(api.Func{Locals: slices.Repeat([]int{1}, api.MaxLocals+1)}),
		"too many slots":             one(api.Func{Params: []int{1}, Locals: slices.Repeat([]int{1}, api.MaxLocals)}),
		"a type 0":                   one(api.Func{Params: []int{0}}),
		"a type 4":                   one(api.Func{Locals: []int{4}}),
		"a result -1":                one(api.Func{Results: []int{-1}}),
		"too much code":              one(api.Func{Code: slices.Repeat([]api.Instr{{Op: op.Abort}}, api.MaxCode+1)}),
		"an operation 0":             code(api.Instr{}),
		"an operation 54":            code(api.Instr{Op: op.Call + 1}),
		"an operation -1":            code(api.Instr{Op: -1}),
		"a number too much":          code(api.Instr{Op: op.Abort, A: 1}),
		"no such constant":           code(api.Instr{Op: op.PushConst}),
		"no such slot":               code(api.Instr{Op: op.Get}),
		"a slot below 0":             code(api.Instr{Op: op.Get, A: -1}),
		"no such function":           code(api.Instr{Op: op.Call, A: 1}),
		"a huge function":            code(api.Instr{Op: op.Call, A: math.MaxInt}),
		"a function below 0":         code(api.Instr{Op: op.Call, A: math.MinInt}),
		"a loop of no rounds":        code(api.Instr{Op: op.Loops}, api.Instr{Op: op.End}),
		"a round too much":           code(api.Instr{Op: op.Loops, A: api.MaxLoop + 1}, api.Instr{Op: op.End}),
		"the last one is wrong":      {Funcs: []api.Func{{}, {}, {Locals: []int{9}}}},
	}
}

func TestP1002WrongScripts(t *testing.T) {
	for what, s := range wrongScripts() {
		if r, e := verify.Of(s); e != api.ErrScript || !isZero(r) {
			t.Errorf("%s: %+v, error %d", what, r, e)
		}
		if verify.Fits(s, nil) || len(s.Funcs) > 0 && verify.Fits(s, zeros(s.Funcs[0].Params)) {
			t.Errorf("%s: Fits", what)
		}
	}
}

// zeros answers a value of each type.
func zeros(types []int) []api.Value {
	var l []api.Value
	for _, kind := range types {
		l = append(l, value.Zero(kind))
	}
	return l
}

func TestP1002WrongBytes(t *testing.T) {
	for _, b := range [][]byte{nil, {}, {0}, {1}, {0, 0}, {0, 1}, {0, 1, 0, 0, 0, 0}, {0, 1, 0, 0, 0, 0, 0, 0},
		{0, 1, 0, 0, 0, 1, 0}, {0, 1, 0, 0, 0, 0, 1}, {0, 1, 0, 0, 0, 0, 1, 0}, {0, 1, 0, 0, 0, 0, 1, 54},
		{0, 17, 0, 0, 0, 0, 0}, {33, 1, 0, 0, 0, 0, 0}, {0, 1, 1, 4, 0, 0, 0, 0}, {0, 1, 1, 0, 0, 0, 0, 0},
		[]byte("func -> ;\n"), make([]byte, api.MaxBytes+1)} {
		if r, e := verify.Check(b); e != api.ErrScript || !isZero(r) {
			t.Errorf("%.20v, %d bytes: %+v, error %d", b, len(b), r, e)
		}
	}
}

// TestP1002ByteMoreOrLess: bytes of a script with one more behind them or ahead
// of them, or cut short anywhere, are none.
func TestP1002ByteMoreOrLess(t *testing.T) {
	b := put(t, parse(t, "const x'6162' / func int -> int ; bool / get 0 / loop 3 / call 1 / end / func int -> int ; / get 0 / dup / add"))
	for n := range b {
		if r, e := verify.Check(b[:n]); e != api.ErrScript || !isZero(r) {
			t.Errorf("%d of %d bytes: %+v, error %d", n, len(b), r, e)
		}
	}
	for more := range 256 {
		if r, e := verify.Check(append(slices.Clone(b), byte(more))); e != api.ErrScript || !isZero(r) {
			t.Errorf("%d more: %+v, error %d", more, r, e)
		}
	}
	if r, e := verify.Check(b[1:]); e != api.ErrScript || !isZero(r) {
		t.Errorf("without the first byte: %+v, error %d", r, e)
	}
}

func TestP1002Fits(t *testing.T) {
	one, text, yes := value.Number(1), value.Text("a"), value.Truth(true)
	long, longest := value.Text(strings.Repeat("a", api.MaxValue+1)), value.Text(strings.Repeat("a", api.MaxValue))
	for _, c := range []struct {
		head string
		l    []api.Value
		want bool
	}{
		{"func -> ;", nil, true},
		{"func -> ;", []api.Value{}, true},
		{"func -> ;", []api.Value{one}, false},
		{"func -> ;", []api.Value{{}}, false},
		{"func -> ; int", []api.Value{one}, false},
		{"func -> ; int", nil, true},
		{"func -> int ; / int 1", []api.Value{one}, false},
		{"func int -> ;", []api.Value{one}, true},
		{"func int -> ;", nil, false},
		{"func int -> ;", []api.Value{one, one}, false},
		{"func int -> ;", []api.Value{text}, false},
		{"func int -> ;", []api.Value{yes}, false},
		{"func int -> ;", []api.Value{{}}, false},
		{"func int -> ;", []api.Value{value.Number(math.MinInt)}, true},
		{"func int -> ;", []api.Value{{Type: api.Int, N: 1, B: "a"}}, false},
		{"func int -> ; bool", []api.Value{one}, true},
		{"func int -> ; bool", []api.Value{one, yes}, false},
		{"func bytes -> ;", []api.Value{text}, true},
		{"func bytes -> ;", []api.Value{value.Text("")}, true},
		{"func bytes -> ;", []api.Value{longest}, true},
		{"func bytes -> ;", []api.Value{long}, false},
		{"func bytes -> ;", []api.Value{{Type: api.Bytes, N: 1}}, false},
		{"func bytes -> ;", []api.Value{one}, false},
		{"func bool -> ;", []api.Value{yes}, true},
		{"func bool -> ;", []api.Value{value.Truth(false)}, true},
		{"func bool -> ;", []api.Value{{Type: api.Bool, N: 2}}, false},
		{"func bool -> ;", []api.Value{{Type: api.Bool, N: -1}}, false},
		{"func bool -> ;", []api.Value{{Type: api.Bool, B: "a"}}, false},
		{"func bool -> ;", []api.Value{one}, false},
		{"func int bytes bool -> ;", []api.Value{one, text, yes}, true},
		{"func int bytes bool -> ;", []api.Value{one, text}, false},
		{"func int bytes bool -> ;", []api.Value{text, yes}, false},
		{"func int bytes bool -> ;", []api.Value{one, text, yes, yes}, false},
		{"func int bytes bool -> ;", []api.Value{one, yes, text}, false},
		{"func int bytes bool -> ;", []api.Value{yes, text, one}, false},
		{"func int bytes bool -> ;", []api.Value{one, text, {}}, false},
		{"func int bytes bool -> ;", []api.Value{one, long, yes}, false},
		{"func int bytes bool -> ;", nil, false},
		// the first function's, no other one's
		{"func int -> ; / func -> ;", []api.Value{one}, true},
		{"func int -> ; / func -> ;", nil, false},
		{"func -> ; / func int -> ;", nil, true},
		{"func -> ; / func int -> ;", []api.Value{one}, false},
		// it need not be verified
		{"func int -> int ; / if", []api.Value{one}, true},
		{"func int -> int ; / call 0 / add", []api.Value{one}, true},
		{"func int -> int ; / call 0 / add", []api.Value{yes}, false},
	} {
		s := parse(t, c.head)
		if got := verify.Fits(s, c.l); got != c.want {
			t.Errorf("%q, %v: Fits %v", c.head, c.l, got)
		}
	}
}

func TestP1002FitsMany(t *testing.T) {
	types := slices.Repeat([]int{api.Int, api.Bytes, api.Bool, api.Bytes}, 2)
	s := api.Script{Funcs: []api.Func{{Params: types}}}
	for n := range 3 * api.MaxTypes {
		l := zeros(slices.Repeat(types, 3)[:n])
		if verify.Fits(s, l) != (n == api.MaxTypes) {
			t.Errorf("%d values: Fits is not as it should be", n)
		}
	}
	for at := range types {
		for kind := -1; kind <= 4; kind++ {
			l := zeros(types)
			l[at].Type = kind
			if verify.Fits(s, l) != (kind == types[at]) {
				t.Errorf("a %d at %d: Fits is not as it should be", kind, at)
			}
		}
	}
}
