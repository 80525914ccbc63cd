package types_test

import (
	"slices"
	"strings"
	"testing"

	"weighhouse/api"
	"weighhouse/op"
	"weighhouse/types"
)

// wrongScripts are some that may not be.
func wrongScripts() map[string]api.Script {
	one := func(f api.Func) api.Script { return api.Script{Funcs: []api.Func{f}} }
	code := func(l ...api.Instr) api.Script { return one(api.Func{Code: l}) }
	return map[string]api.Script{
		"no function":                {},
		"a constant, and nothing":    {Consts: []string{"a"}},
		"an empty list of functions": {Funcs: []api.Func{}},
		"too many functions":         {Funcs: make([]api.Func, api.MaxFuncs+1)},
		"too many constants":         {Consts: make([]string, api.MaxConsts+1), Funcs: make([]api.Func, 1)},
		"too long a constant":        {Consts: []string{strings.Repeat("a", api.MaxValue+1)}, Funcs: make([]api.Func, 1)},
		"too many Params":            one(api.Func{Params: slices.Repeat([]int{1}, api.MaxTypes+1)}),
		"too many Results":           one(api.Func{Results: slices.Repeat([]int{1}, api.MaxTypes+1)}),
		"too many Locals":            one(api.Func{Locals: slices.Repeat([]int{1}, api.MaxLocals+1)}),
		"a type 0":                   one(api.Func{Params: []int{0}}),
		"a type 4":                   one(api.Func{Locals: []int{4}}),
		"a result -1":                one(api.Func{Results: []int{-1}}),
		"too much code":              one(api.Func{Code: slices.Repeat([]api.Instr{{Op: op.Abort}}, api.MaxCode+1)}),
		"an operation 0":             code(api.Instr{}),
		"an operation 54":            code(api.Instr{Op: op.Call + 1}),
		"an operation -1":            code(api.Instr{Op: -1}),
		"a number too much":          code(api.Instr{Op: op.Abort, A: 1}),
		"no such constant":           code(api.Instr{Op: op.PushConst}),
		"no such slot to get":        code(api.Instr{Op: op.Get}),
		"no such slot to set":        code(api.Instr{Op: op.Set, A: 1}),
		"a slot below 0":             code(api.Instr{Op: op.Get, A: -1}),
		"no such function":           code(api.Instr{Op: op.Call, A: 1}),
		"a function below 0":         code(api.Instr{Op: op.Call, A: -1}),
		"a loop of no rounds":        code(api.Instr{Op: op.Loops}, api.Instr{Op: op.End}),
		"the other one is wrong":     {Funcs: []api.Func{{}, {Locals: []int{9}}}},
		"wrong, and of bad shape":    code(api.Instr{Op: op.End, A: 1}),
		"wrong, and too few":         code(api.Instr{Op: op.Add}, api.Instr{Op: op.Drop, A: 1}),
		"another one's bad shape":    {Funcs: []api.Func{{Code: []api.Instr{{Op: op.If}}}, {Params: []int{7}}}},
	}
}

func TestP703WrongScript(t *testing.T) {
	for what, s := range wrongScripts() {
		for _, f := range append(noPlaces(len(s.Funcs)), 0, 1) {
			if l, e := types.Check(s, f); e != api.ErrScript || len(l) != 0 {
				t.Errorf("%s, %d: %v, error %d", what, f, l, e)
			}
		}
	}
}

func TestP704WrongScript(t *testing.T) {
	for what, s := range wrongScripts() {
		if most, e := types.All(s); e != api.ErrScript || len(most) != 0 {
			t.Errorf("%s: %v, error %d", what, most, e)
		}
	}
}

func TestP703NoFunction(t *testing.T) {
	for _, text := range []string{
		"func -> ;",
		"func -> int ; / int 1 / func -> ;",
		"func -> ; / if / func -> ; / add", // it is told ahead of what is wrong within
		strings.Repeat("func -> ; / ", api.MaxFuncs-1) + "func -> ;",
	} {
		s := read(t, text)
		for _, f := range noPlaces(len(s.Funcs)) {
			wantBad(t, s, f, api.ErrArg)
		}
	}
}

func TestP703FirstAndLast(t *testing.T) {
	s := read(t, "func -> int ; / int 1"+strings.Repeat(" / func -> ;", api.MaxFuncs-2)+" / func bool -> bool bool ; / get 0 / dup")
	wantCheck(t, s, 0, "", "i")
	for f := 1; f < api.MaxFuncs-1; f++ {
		wantCheck(t, s, f, "")
	}
	wantCheck(t, s, api.MaxFuncs-1, "", "b", "bb")
	wantBad(t, s, api.MaxFuncs, api.ErrArg)
	wantBad(t, s, -1, api.ErrArg)
}

// TestP703OnlyItself: what is wrong in other functions does not matter.
func TestP703OnlyItself(t *testing.T) {
	s := read(t, "func -> ; / if / func -> int ; / int 2 / func -> ; / add / func -> ; / int 1 / not / drop")
	wantBad(t, s, 0, api.ErrShape)
	wantCheck(t, s, 1, "", "i")
	wantBad(t, s, 2, api.ErrStack)
	wantBad(t, s, 3, api.ErrType)
}

func TestP704Most(t *testing.T) {
	for _, c := range []struct {
		text string
		want []int
	}{
		{"func -> ;", []int{0}},
		{"func -> ; / func -> ;", []int{0, 0}},
		{"func -> ; / int 1 / int 2 / add / drop / func -> ;", []int{2, 0}},
		{"func int -> int ; / get 0 / dup / mul", []int{2}},
		{"func -> ; / func -> int ; / int 1 / func -> ; / int 1 / dup / over / drop / drop / drop", []int{0, 1, 3}},
		{"func -> int int int ; / int 1 / int 1 / int 1", []int{3}},
		// a stack that stands behind an instruction of a branch alone
		{"func -> ; / true / if / int 1 / int 1 / drop / drop / else / end", []int{2}},
		{"func -> ; / true / if / else / int 1 / int 1 / int 1 / add / add / drop / end", []int{3}},
		{"func -> int int int ; / true / if / int 1 / int 1 / int 1 / else / int 1 / int 1 / int 1 / end", []int{3}},
		{"func -> ; / loop 2 / int 1 / true / if / end / drop / end", []int{2}},
		// what a called function needs is its own
		{"func -> ; / call 1 / func -> ; / int 1 / int 1 / drop / drop", []int{0, 2}},
		{"func -> ; / int 1 / call 1 / drop / func int -> int ; / get 0", []int{1, 1}},
		{"func int int int -> ; bytes bool", []int{0}},
	} {
		wantMost(t, read(t, c.text), c.want...)
	}
	s := read(t, strings.Repeat("func -> ; / true / drop / ", api.MaxFuncs-1)+"func -> ;")
	wantMost(t, s, append(slices.Repeat([]int{1}, api.MaxFuncs-1), 0)...)
}

func TestP704FirstError(t *testing.T) {
	const good, shape, few, kind = "func -> ; / true / drop", "func -> ; / if", "func -> ; / add", "func -> ; / int 1 / not / drop"
	for text, want := range map[string]api.Errno{
		shape:                                     api.ErrShape,
		few + " / " + kind:                        api.ErrStack,
		kind + " / " + few:                        api.ErrType,
		shape + " / " + few:                       api.ErrShape,
		few + " / " + shape:                       api.ErrStack,
		kind + " / " + shape:                      api.ErrType,
		shape + " / " + kind:                      api.ErrShape,
		good + " / " + kind + " / " + shape:       api.ErrType,
		good + " / " + shape + " / " + kind:       api.ErrShape,
		good + " / " + good + " / " + few:         api.ErrStack,
		good + " / func -> int ; / " + few:        api.ErrStack,
		good + " / func -> int ; / true / " + few: api.ErrType,
	} {
		s := read(t, text)
		if most, e := types.All(s); e != want || len(most) != 0 {
			t.Errorf("%q: %v, error %d, want %d", text, most, e, want)
		}
	}
}

func TestP701NilIsEmpty(t *testing.T) {
	for _, l := range [][]int{nil, {}, make([]int, 0, 4)} {
		for _, c := range [][]api.Instr{nil, {}, make([]api.Instr, 0, 4)} {
			for _, consts := range [][]string{nil, {}} {
				s := api.Script{Consts: consts, Funcs: []api.Func{{Params: l, Results: l, Locals: l, Code: c}}}
				wantCheck(t, s, 0, "")
				wantMost(t, s, 0)
				wantBad(t, s, 1, api.ErrArg)
			}
		}
		for _, m := range [][]int{nil, {}} {
			if e := types.Alike(l, m); e != api.OK {
				t.Errorf("%v, %v: error %d", l, m, e)
			}
		}
		for _, a := range [][]int{l, {1}} {
			if e := types.Alike(a, l); (e == api.OK) != (len(a) == 0) {
				t.Errorf("%v, %v: error %d", a, l, e)
			}
		}
	}
}

// roomy answers a copy of a list with room behind it that holds n.
func roomy[T any](l []T, n T) []T {
	return append(slices.Clone(l), n, n, n)[:len(l)]
}

// roomyScript answers a copy of s, each of its lists with room behind it.
func roomyScript(s api.Script) api.Script {
	funcs := roomy(s.Funcs, api.Func{Params: []int{3}})
	for i, f := range funcs {
		funcs[i] = api.Func{Params: roomy(f.Params, 3), Results: roomy(f.Results, 3), Locals: roomy(f.Locals, 3),
			Code: roomy(f.Code, api.Instr{Op: op.Abort})}
	}
	return api.Script{Consts: roomy(s.Consts, "room"), Funcs: funcs}
}

// all answers a list with the room behind it.
func all[T any](l []T) []T {
	return l[:cap(l)]
}

// sameWithRoom answers whether two scripts that roomyScript made are the same,
// and so is the room that it made.
func sameWithRoom(a, b api.Script) bool {
	same := slices.Equal(all(a.Consts)[:len(a.Consts)+3], all(b.Consts)[:len(b.Consts)+3])
	for i, f := range all(a.Funcs)[:len(a.Funcs)] {
		g := b.Funcs[i]
		same = same && slices.Equal(all(f.Params)[:len(f.Params)+3], all(g.Params)[:len(g.Params)+3]) &&
			slices.Equal(all(f.Results)[:len(f.Results)+3], all(g.Results)[:len(g.Results)+3]) &&
			slices.Equal(all(f.Locals)[:len(f.Locals)+3], all(g.Locals)[:len(g.Locals)+3]) &&
			slices.Equal(all(f.Code)[:len(f.Code)+3], all(g.Code)[:len(g.Code)+3])
	}
	for i := range 3 {
		f := all(a.Funcs)[len(a.Funcs)+i]
		same = same && slices.Equal(f.Params, []int{3}) && f.Results == nil && f.Locals == nil && f.Code == nil
	}
	return same
}

// mixed is a script in which all kinds of instructions stand.
const mixed = "const x'61' / func int bool -> int bytes ; bytes" +
	" / get 0 / true / if / neg / dup / drop / else / const 0 / len / add / end" +
	" / loop 3 / get 1 / leave / get 1 / if / int 4 / swap / over / add / drop / true / leave / end / end" +
	" / get 2 / call 1 / set 2 / get 2 / call 2" +
	" / func bytes -> bytes ; / get 0 / load / drop / func -> ;"

func TestP703Mixed(t *testing.T) {
	s := read(t, mixed)
	wantCheck(t, s, 0, "", "i", "ib", "i", "i", "ii", "i", "i", "iy", "ii", "i",
		"i", "i", "ib", "i", "ib", "i", "ii", "ii", "iii", "ii", "i", "ib", "i", "i",
		"i", "iy", "iy", "i", "iy", "iy")
	wantCheck(t, s, 1, "", "y", "yb", "y")
	wantCheck(t, s, 2, "")
	wantMost(t, s, 3, 2, 0)
}

func TestP701NothingChanged(t *testing.T) {
	for _, text := range []string{mixed, "func -> ;", "func int -> int ; / get 0", "func -> ; / if", "func -> ; / add",
		"func -> int ; / true", "func -> ; / call 1 / func -> ; / true / not / drop"} {
		s := roomyScript(read(t, text))
		was := roomyScript(s)
		for f := -1; f <= len(s.Funcs); f++ {
			types.Check(s, f)
		}
		types.All(s)
		if !sameWithRoom(s, was) {
			t.Errorf("%q: changed to %+v", text, s)
		}
	}
	a, b := roomy([]int{1, 2}, 3), roomy([]int{1, 2}, 3)
	for _, l := range [][]int{a, b, a[:1], b[:0]} {
		types.Alike(l, a)
		types.Alike(b, l)
	}
	for _, l := range [][]int{a, b} {
		if !slices.Equal(l[:5], []int{1, 2, 3, 3, 3}) {
			t.Errorf("changed to %v", l[:5])
		}
	}
}

// TestP701AnswersAreNew: writing all over one list of an answer, and the room
// behind it, changes no other list, no other answer and no argument.
func TestP701AnswersAreNew(t *testing.T) {
	s := roomyScript(read(t, mixed))
	was := roomyScript(s)
	l, e := types.Check(s, 0)
	other, _ := types.Check(s, 0)
	if e != api.OK || len(l) != len(other) {
		t.Fatalf("%d and %d stacks, error %d", len(l), len(other), e)
	}
	for at := range l {
		for i := range all(l[at]) {
			all(l[at])[i] = 99
		}
		for later := at + 1; later < len(l); later++ {
			if !slices.Equal(l[later], other[later]) {
				t.Fatalf("the stack at %d is %v behind a change of that at %d", later, l[later], at)
			}
		}
	}
	// and the other way round, from the last one on
	l, _ = types.Check(s, 0)
	for at, stack := range slices.Backward(l) {
		for i := range all(stack) {
			all(stack)[i] = 99
		}
		for ahead := range at {
			if !slices.Equal(l[ahead], other[ahead]) {
				t.Fatalf("the stack at %d is %v behind a change of that at %d", ahead, l[ahead], at)
			}
		}
	}
	most, _ := types.All(s)
	for i := range all(most) {
		all(most)[i] = 99
	}
	clear(all(l))
	if !sameWithRoom(s, was) {
		t.Errorf("the script is %+v behind changes of answers", s)
	}
	wantMost(t, s, 3, 2, 0)
}
