package calls_test

import (
	"math"
	"slices"
	"strings"
	"testing"

	"weighhouse/api"
	"weighhouse/calls"
	"weighhouse/op"
)

// noPlaces are numbers of functions that a script of n does not have.
func noPlaces(n int) []int {
	return []int{-1, -2, -n, -n - 1, n, n + 1, 2 * n, api.MaxFuncs, api.MaxFuncs + 1, 255, 256, 1 << 16, 1 << 31, 1 << 32, 1<<32 + 1,
		-1 << 31, -1 << 32, math.MaxInt, math.MaxInt - 1, math.MinInt, math.MinInt + 1}
}

// wrongScripts are some that may not be.
func wrongScripts() map[string]api.Script {
	one := func(f api.Func) api.Script { return api.Script{Funcs: []api.Func{f}} }
	code := func(l ...api.Instr) api.Script { return one(api.Func{Code: l}) }
	return map[string]api.Script{
		"no function":                {},
		"a constant, and nothing":    {Consts: []string{"a"}},
		"an empty list of functions": {Funcs: []api.Func{}},
		"too many functions":         {Funcs: make([]api.Func, api.MaxFuncs+1)},
		"far too many functions":     {Funcs: make([]api.Func, 1<<12)},
		"too many constants":         {Consts: make([]string, api.MaxConsts+1), Funcs: make([]api.Func, 1)},
		"too long a constant":        {Consts: []string{strings.Repeat("a", api.MaxValue+1)}, Funcs: make([]api.Func, 1)},
		"too many Params":            one(api.Func{Params: slices.Repeat([]int{1}, api.MaxTypes+1)}),
		"too many Results":           one(api.Func{Results: slices.Repeat([]int{1}, api.MaxTypes+1)}),
		"too many Locals":            one(api.Func{Locals: slices.Repeat([]int{1}, api.MaxLocals+1)}),
		"a type 0":                   one(api.Func{Params: []int{0}}),
		"a type 4":                   one(api.Func{Locals: []int{4}}),
		"a result -1":                one(api.Func{Results: []int{-1}}),
		"too much code":              one(api.Func{Code: slices.Repeat([]api.Instr{{Op: op.Abort}}, api.MaxCode+1)}),
		"too many calls":             one(api.Func{Code: slices.Repeat([]api.Instr{{Op: op.Call}}, api.MaxCode+1)}),
		"an operation 0":             code(api.Instr{}),
		"an operation 54":            code(api.Instr{Op: op.Call + 1}),
		"an operation -1":            code(api.Instr{Op: -1}),
		"a number too much":          code(api.Instr{Op: op.Abort, A: 1}),
		"no such constant":           code(api.Instr{Op: op.PushConst}),
		"no such slot":               code(api.Instr{Op: op.Get}),
		"no such function":           code(api.Instr{Op: op.Call, A: 1}),
		"no such function of two":    script([]int{2}, nil),
		"none past the most":         script([]int{api.MaxFuncs}, nil),
		"a huge function":            script([]int{math.MaxInt}),
		"a function below 0":         script([]int{-1}, nil),
		"a function far below 0":     script([]int{math.MinInt}, nil),
		"one that is, and one not":   script([]int{1, 2}, nil),
		"the other one is wrong":     {Funcs: []api.Func{{}, {Locals: []int{9}}}},
		"wrong, and goes round":      {Consts: make([]string, api.MaxConsts+1), Funcs: []api.Func{{Code: []api.Instr{{Op: op.Call}}}}},
		"goes round, and one wrong":  script([]int{1}, []int{0}, []int{3}),
	}
}

func TestP801WrongScript(t *testing.T) {
	for what, s := range wrongScripts() {
		if g, e := calls.Graph(s); e != api.ErrScript || len(g) != 0 {
			t.Errorf("%s: Graph %v, error %d", what, g, e)
		}
		if l, e := calls.Order(s); e != api.ErrScript || len(l) != 0 {
			t.Errorf("%s: Order %v, error %d", what, l, e)
		}
		if l, e := calls.Deep(s); e != api.ErrScript || len(l) != 0 {
			t.Errorf("%s: Deep %v, error %d", what, l, e)
		}
		for _, f := range append(noPlaces(len(s.Funcs)), 0, 1) {
			if l := calls.Reach(s, f); len(l) != 0 {
				t.Errorf("%s: Reach of %d %v", what, f, l)
			}
		}
	}
}

func TestP802NoFunction(t *testing.T) {
	for _, g := range []string{"", ",", "1,", "0", "1,0", "1,2,3,4,5,6,7,8,9,10,11,12,13,14,15,"} {
		s := script(lists(g)...)
		for _, f := range noPlaces(len(s.Funcs)) {
			if f >= 0 && f < len(s.Funcs) {
				continue
			}
			wantReach(t, s, f)
		}
	}
}

func TestP801NilIsEmpty(t *testing.T) {
	for _, l := range [][]int{nil, {}, make([]int, 0, 4)} {
		for _, c := range [][]api.Instr{nil, {}, make([]api.Instr, 0, 4)} {
			for _, consts := range [][]string{nil, {}, make([]string, 0, 4)} {
				f := api.Func{Params: l, Results: l, Locals: l, Code: c}
				s := api.Script{Consts: consts, Funcs: []api.Func{f, f}}
				wantGraph(t, s, nil, nil)
				wantOrder(t, s, 0, 1)
				wantDeep(t, s, 1, 1)
				wantReach(t, s, 0, 0)
				wantReach(t, s, 1, 1)
				wantReach(t, s, 2)
			}
		}
	}
}

// roomy answers a copy of a list with room behind it that holds n.
func roomy[T any](l []T, n T) []T {
	return append(slices.Clone(l), n, n, n)[:len(l)]
}

// roomyScript answers a copy of s, each of its lists with room behind it.
func roomyScript(s api.Script) api.Script {
	funcs := roomy(s.Funcs, api.Func{Params: []int{3}})
	for i, f := range funcs {
		funcs[i] = api.Func{Params: roomy(f.Params, 3), Results: roomy(f.Results, 3), Locals: roomy(f.Locals, 3),
			Code: roomy(f.Code, api.Instr{Op: op.Call, A: 1})}
	}
	return api.Script{Consts: roomy(s.Consts, "room"), Funcs: funcs}
}

// all answers a list with the room behind it.
func all[T any](l []T) []T {
	return l[:cap(l)]
}

// sameWithRoom answers whether two scripts that roomyScript made are the same,
// and so is the room that it made.
func sameWithRoom(a, b api.Script) bool {
	same := slices.Equal(all(a.Consts)[:len(a.Consts)+3], all(b.Consts)[:len(b.Consts)+3])
	for i, f := range a.Funcs {
		g := b.Funcs[i]
		same = same && slices.Equal(all(f.Params)[:len(f.Params)+3], all(g.Params)[:len(g.Params)+3]) &&
			slices.Equal(all(f.Results)[:len(f.Results)+3], all(g.Results)[:len(g.Results)+3]) &&
			slices.Equal(all(f.Locals)[:len(f.Locals)+3], all(g.Locals)[:len(g.Locals)+3]) &&
			slices.Equal(all(f.Code)[:len(f.Code)+3], all(g.Code)[:len(g.Code)+3])
	}
	for i := range 3 {
		f := all(a.Funcs)[len(a.Funcs)+i]
		same = same && slices.Equal(f.Params, []int{3}) && f.Results == nil && f.Locals == nil && f.Code == nil
	}
	return same
}

func TestP801NothingChanged(t *testing.T) {
	scripts := []api.Script{
		read(t, "const x'61' / func int bool -> int ; bytes / get 0 / call 2 / call 1 / call 2 / call 1 / func int -> int ; / get 0 / func -> ;"),
		{Consts: []string{"a"}},
	}
	for _, c := range straightOnes {
		scripts = append(scripts, script(lists(c.graph)...))
	}
	for _, c := range rounds {
		scripts = append(scripts, script(lists(c.graph)...))
	}
	for _, s := range scripts {
		s = roomyScript(s)
		was := roomyScript(s)
		calls.Graph(s)
		calls.Order(s)
		calls.Deep(s)
		for f := -1; f <= len(s.Funcs); f++ {
			calls.Reach(s, f)
		}
		if !sameWithRoom(s, was) {
			t.Errorf("changed from %+v to %+v", was, s)
		}
	}
}

// spoil writes all over a list and the room behind it.
func spoil(l []int) {
	for i := range all(l) {
		all(l)[i] = 99
	}
}

// TestP801AnswersAreNew: writing all over one list of an answer, and the room
// behind it, changes no other list, no other answer and no argument.
func TestP801AnswersAreNew(t *testing.T) {
	s := roomyScript(script([]int{3, 2, 2, 1}, []int{3}, []int{3, 1, 3}, nil))
	was := roomyScript(s)
	want := [][]int{{1, 2, 3}, {3}, {1, 3}, nil}
	for spoilt := range want {
		g, _ := calls.Graph(s)
		if len(g) != len(want) {
			t.Fatalf("Graph %v", g)
		}
		spoil(g[spoilt])
		for f := range g {
			if f != spoilt && !slices.Equal(g[f], want[f]) {
				t.Errorf("%d calls %v behind a change of the list of %d", f, g[f], spoilt)
			}
		}
		clear(all(g))
	}
	order, _ := calls.Order(s)
	deep, _ := calls.Deep(s)
	spoil(order)
	wantDeep(t, s, deep...)
	spoil(deep)
	for f := range s.Funcs {
		spoil(calls.Reach(s, f))
	}
	if !sameWithRoom(s, was) {
		t.Errorf("the script is %+v behind changes of answers", s)
	}
	wantGraph(t, s, want...)
	wantOrder(t, s, 3, 1, 2, 0)
	wantDeep(t, s, 4, 2, 3, 1)
	wantReach(t, s, 2, 1, 2, 3)
}

// TestP801Again: the same script gets the same answers, however often and
// whatever was asked in between.
func TestP801Again(t *testing.T) {
	for range 20 {
		for _, c := range straightOnes {
			s := script(lists(c.graph)...)
			wantOrder(t, s, numbers(c.order)...)
			wantDeep(t, s, numbers(c.deep)...)
			for f, l := range lists(c.reach) {
				wantReach(t, s, f, l...)
			}
		}
		for _, c := range rounds {
			wantRound(t, script(lists(c.graph)...))
		}
	}
}
