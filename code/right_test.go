package code_test

import (
	"fmt"
	"math/rand"
	"strings"
	"testing"

	"weighhouse/api"
	"weighhouse/code"
	"weighhouse/op"
)

// kindOfA answers what the number A is, as the table of operations has it.
func kindOfA(o int) string {
	switch o {
	case 1:
		return "number"
	case 2:
		return "const"
	case 9, 10:
		return "local"
	case 51:
		return "loop"
	case 53:
		return "func"
	}
	return "none"
}

// rightOnes are scripts that may be, with those at the edges.
func rightOnes() []named {
	l := []named{
		{"a function of nothing", of(api.Func{})},
		{"as much as may be", full()},
		{"MaxConsts constants", api.Script{Consts: times(api.MaxConsts, "a"), Funcs: []api.Func{{}}}},
		{"the last constant", api.Script{Consts: times(api.MaxConsts, "a"), Funcs: []api.Func{
			{Code: []api.Instr{{Op: op.PushConst, A: api.MaxConsts - 1}}}}}},
		{"a constant of nothing", api.Script{Consts: []string{""}, Funcs: []api.Func{{}}}},
		{"a constant of MaxValue bytes", api.Script{Consts: []string{strings.Repeat("\xff", api.MaxValue)}, Funcs: []api.Func{{}}}},
		{"constants alike", api.Script{Consts: []string{"a", "a", ""}, Funcs: []api.Func{{}}}},
		{"MaxFuncs functions", of(times(api.MaxFuncs, api.Func{})...)},
		{"the last function", of(append(times(api.MaxFuncs-1, api.Func{}),
			api.Func{Code: []api.Instr{{Op: op.Call, A: api.MaxFuncs - 1}}})...)},
		{"MaxTypes Params", of(api.Func{Params: times(api.MaxTypes, 1)})},
		{"MaxTypes Results", of(api.Func{Results: times(api.MaxTypes, 2)})},
		{"MaxTypes Params and MaxTypes Results", of(api.Func{Params: times(api.MaxTypes, 1), Results: times(api.MaxTypes, 2)})},
		{"MaxLocals Locals", of(api.Func{Locals: times(api.MaxLocals, 3)})},
		{"MaxLocals Locals, MaxTypes Results", of(api.Func{Locals: times(api.MaxLocals, 3), Results: times(api.MaxTypes, 2)})},
		{"MaxLocals Params and Locals", of(api.Func{Params: times(api.MaxTypes, 1), Locals: times(api.MaxLocals-api.MaxTypes, 3)})},
		{"the last Local", of(api.Func{Params: []int{1}, Locals: times(api.MaxLocals-1, 3),
			Code: []api.Instr{{Op: op.Get, A: api.MaxLocals - 1}}})},
		{"a Param alone", of(api.Func{Params: []int{1}, Code: []api.Instr{{Op: op.Set}}})},
		{"a Local alone", of(api.Func{Locals: []int{1}, Code: []api.Instr{{Op: op.Get}}})},
		{"255 instructions", of(api.Func{Code: times(255, api.Instr{Op: op.Dup})})},
		{"MaxCode instructions", of(api.Func{Code: times(api.MaxCode, api.Instr{Op: op.Dup})})},
		{"a call of its own", of(api.Func{Code: []api.Instr{{Op: op.Call}}})},
		{"blocks that don't close", of(api.Func{Code: []api.Instr{{Op: op.End}, {Op: op.If}, {Op: op.Else}, {Op: op.Loops, A: 1}}})},
	}
	for o := op.PushInt; o <= op.Call; o++ {
		in := api.Instr{Op: o}
		if o == op.Loops {
			in.A = 1
		}
		l = append(l, named{"the operation " + op.Name(o), does(in)})
	}
	for _, n := range numbers() {
		l = append(l, named{fmt.Sprint("int ", n), does(api.Instr{Op: op.PushInt, A: n})})
	}
	return l
}

// wrongOnes are scripts that may not be, each for one reason.
func wrongOnes() []named {
	l := []named{
		{"nothing", api.Script{}},
		{"no function", api.Script{Consts: []string{"a"}}},
		{"a constant too many", api.Script{Consts: times(api.MaxConsts+1, ""), Funcs: []api.Func{{}}}},
		{"256 constants", api.Script{Consts: times(256, ""), Funcs: []api.Func{{}}}},
		{"65536 constants", api.Script{Consts: times(65536, ""), Funcs: []api.Func{{}}}},
		{"a constant too long", api.Script{Consts: []string{strings.Repeat("k", api.MaxValue+1)}, Funcs: []api.Func{{}}}},
		{"the last constant too long", api.Script{Consts: []string{"a", strings.Repeat("k", 65536)}, Funcs: []api.Func{{}}}},
		{"a function too many", of(times(api.MaxFuncs+1, api.Func{})...)},
		{"257 functions", of(times(257, api.Func{})...)},
		{"a Param too many", of(api.Func{Params: times(api.MaxTypes+1, 1)})},
		{"a Result too many", of(api.Func{Results: times(api.MaxTypes+1, 1)})},
		{"257 Results", of(api.Func{Results: times(257, 1)})},
		{"a Local too many", of(api.Func{Locals: times(api.MaxLocals+1, 1)})},
		{"a Local too many beside Params", of(api.Func{Params: times(api.MaxTypes, 1), Locals: times(api.MaxLocals-api.MaxTypes+1, 1)})},
		{"a Param too many beside Locals", of(api.Func{Params: []int{1}, Locals: times(api.MaxLocals, 1)})},
		{"256 Locals", of(api.Func{Locals: times(256, 1)})},
		{"an instruction too many", of(api.Func{Code: times(api.MaxCode+1, api.Instr{Op: op.Dup})})},
		{"65536 instructions", of(api.Func{Code: times(65536, api.Instr{Op: op.Dup})})},
		{"a constant that is not there", of(api.Func{Code: []api.Instr{{Op: op.PushConst}}})},
		{"a place that is not there", of(api.Func{Results: []int{1}, Code: []api.Instr{{Op: op.Get}}})},
		{"another function's place", of(api.Func{Locals: []int{1}}, api.Func{Code: []api.Instr{{Op: op.Set}}})},
		{"a fault in the last function", of(api.Func{}, api.Func{}, api.Func{Code: []api.Instr{{Op: op.Dup}, {Op: op.Call, A: 3}}})},
		{"a fault behind a right function", of(api.Func{}, api.Func{Results: []int{1, 4}})},
	}
	for _, n := range append(numbers(), 54, 55, 99, 256+op.Dup) {
		if n < 1 || n > 3 {
			l = append(l,
				named{fmt.Sprint("a Param ", n), of(api.Func{Params: []int{1, n}})},
				named{fmt.Sprint("a Result ", n), of(api.Func{Results: []int{n, 1}})},
				named{fmt.Sprint("a Local ", n), of(api.Func{Params: []int{1}, Locals: []int{2, 3, n}})})
		}
		if n < 1 || n > 53 {
			l = append(l,
				named{fmt.Sprint("an operation ", n), does(api.Instr{Op: n})},
				named{fmt.Sprint("an operation with a number ", n), does(api.Instr{Op: n, A: 1})})
		}
	}
	return append(l, wrongNumbers()...)
}

// most answers the greatest A of that kind in the first function of does.
func most(kind string) int {
	return map[string]int{"const": 2, "local": 3, "loop": api.MaxLoop, "func": 2}[kind]
}

// wrongNumbers are scripts with an A that may not be.
func wrongNumbers() []named {
	var l []named
	for o := op.PushInt; o <= op.Call; o++ {
		kind := kindOfA(o)
		for _, n := range append(numbers(), -o, o) {
			inside := n >= 0 && n <= most(kind) && (kind != "loop" || n > 0)
			if kind != "number" && !inside {
				l = append(l, named{fmt.Sprint(op.Name(o), " ", n), does(api.Instr{Op: op.End}, api.Instr{Op: o, A: n}, api.Instr{Op: op.Dup})})
			}
		}
	}
	return l
}

func TestP402Right(t *testing.T) {
	for _, x := range rightOnes() {
		if !code.Right(x.s) {
			t.Error(x.what, "may be")
		}
	}
	for _, x := range wrongOnes() {
		if code.Right(x.s) {
			t.Error(x.what, "may not be")
		}
	}
}

// TestP402EachA goes from below the least A to past the greatest one.
func TestP402EachA(t *testing.T) {
	for o := op.PushInt; o <= op.Call; o++ {
		kind := kindOfA(o)
		for n := -3; n < 300; n++ {
			want := 0 <= n && n <= most(kind) && (kind != "loop" || n > 0) || kind == "number"
			if got := code.Right(does(api.Instr{Op: o, A: n})); got != want {
				t.Errorf("%s %d: %v", op.Name(o), n, got)
			}
		}
	}
}

// TestP402OwnCounts: A goes by the script's own constants and functions, and
// by the function's own places.
func TestP402OwnCounts(t *testing.T) {
	for n := 1; n <= api.MaxFuncs; n++ {
		for a := range api.MaxConsts + 2 {
			s := of(times(n, api.Func{})...)
			s.Consts = times(2*n, "c")
			last := &s.Funcs[n-1]
			last.Params, last.Locals = times(n/2, 1), times(n-n/2, 2)
			for o, count := range map[int]int{op.Call: n, op.PushConst: 2 * n, op.Get: n, op.Set: n} {
				last.Code = []api.Instr{{Op: o, A: a}}
				if got := code.Right(s); got != (a < count) {
					t.Errorf("%s %d of %d: %v", op.Name(o), a, count, got)
				}
			}
		}
	}
}

func TestP402SomeScripts(t *testing.T) {
	rnd := rand.New(rand.NewSource(402))
	for range 1000 {
		if s := someScript(rnd); !code.Right(s) {
			t.Fatalf("%+v may be", s)
		}
	}
}
