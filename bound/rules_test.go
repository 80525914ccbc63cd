package bound_test

import (
	"math"
	"slices"
	"testing"

	"weighhouse/api"
	"weighhouse/bound"
	"weighhouse/code"
	"weighhouse/op"
)

func TestP901NilIsEmpty(t *testing.T) {
	for _, l := range [][]int{nil, {}, make([]int, 0, 4)} {
		for _, c := range [][]api.Instr{nil, {}, make([]api.Instr, 0, 4)} {
			if n, e := bound.Part(c, l); n != 0 || e != api.OK {
				t.Errorf("Part(%v, %v): %d, error %d", c, l, n, e)
			}
			if n, e := bound.Part([]api.Instr{{Op: op.Mul}}, l); n != 2 || e != api.OK {
				t.Errorf("Part of mul: %d, error %d", n, e)
			}
			if n, e := bound.Part([]api.Instr{{Op: op.Call}}, l); n != 0 || e != api.ErrArg {
				t.Errorf("Part of call 0: %d, error %d", n, e)
			}
			for _, consts := range [][]string{nil, {}, make([]string, 0, 4)} {
				f := api.Func{Params: l, Results: l, Locals: l, Code: c}
				wantBounds(t, api.Script{Consts: consts, Funcs: []api.Func{f, f}}, 0, 0)
			}
		}
	}
	wantNone(t, api.Script{}, api.ErrScript)
	wantNone(t, api.Script{Consts: []string{}, Funcs: []api.Func{}}, api.ErrScript)
}

// roomy answers a copy of a list with room behind it that holds n.
func roomy[T any](l []T, n T) []T {
	return append(slices.Clone(l), n, n, n)[:len(l)]
}

// withRoom answers a list with the room that roomy made behind it.
func withRoom[T any](l []T) []T {
	return l[: len(l)+3 : len(l)+3]
}

func TestP901PartChangesNothing(t *testing.T) {
	room := api.Instr{Op: op.Call, A: 9}
	look := func(c []api.Instr, callees []int) {
		c, callees = roomy(c, room), roomy(callees, -7)
		wasC, wasL := slices.Clone(withRoom(c)), slices.Clone(withRoom(callees))
		bound.Part(c, callees)
		if !slices.Equal(withRoom(c), wasC) || !slices.Equal(withRoom(callees), wasL) {
			t.Errorf("changed from %v, %v to %v, %v", wasC, wasL, withRoom(c), withRoom(callees))
		}
	}
	for text := range blocks {
		look(read(t, text), []int{1, 2})
	}
	for _, text := range badShapes {
		look(read(t, text), []int{1, 2})
	}
	for _, text := range []string{"call 0 / call 1 / loop 3 / call 1 / end", "call 2", "loop -1 / end", "call 0 / loop 99999999 / end"} {
		look(read(t, text), []int{1, math.MaxInt})
		look(read(t, text), []int{1, -1, 3})
	}
}

// TestP901RoomDoesNotCount: what stands behind the end of a list is none of it.
func TestP901RoomDoesNotCount(t *testing.T) {
	c := roomy(read(t, "call 1 / mul"), api.Instr{Op: op.Save})
	wantPart(t, c, 16, roomy([]int{7, 9}, -1)...)
	wantBad(t, c, api.ErrArg, roomy([]int{7}, 9)...)
	wantPart(t, roomy(read(t, "if / end"), api.Instr{Op: op.If}), 2)
	wantBad(t, roomy(read(t, "if"), api.Instr{Op: op.End}), api.ErrShape)
	wantBounds(t, script(roomy(read(t, "mul"), api.Instr{Op: op.Call})), 2)
}

// roomyScript answers a copy of s, each of its lists with room behind it.
func roomyScript(s api.Script) api.Script {
	funcs := roomy(s.Funcs, api.Func{Params: []int{3}})
	for i, f := range funcs {
		funcs[i] = api.Func{Params: roomy(f.Params, 3), Results: roomy(f.Results, 3), Locals: roomy(f.Locals, 3), Code: roomy(f.Code, api.Instr{Op: op.If})}
	}
	return api.Script{Consts: roomy(s.Consts, "room"), Funcs: funcs}
}

// wholeRoom answers a script of roomyScript whose lists have their room within.
func wholeRoom(s api.Script) api.Script {
	var funcs []api.Func
	for _, f := range s.Funcs {
		funcs = append(funcs, api.Func{Params: withRoom(f.Params), Results: withRoom(f.Results), Locals: withRoom(f.Locals), Code: withRoom(f.Code)})
	}
	return api.Script{Consts: withRoom(s.Consts), Funcs: append(funcs, withRoom(s.Funcs)[len(s.Funcs):]...)}
}

func someScripts(t *testing.T) []api.Script {
	l := []api.Script{
		parse(t, "const x'61' / func int bool -> int ; bytes / get 0 / call 2 / call 1 / loop 3 / call 2 / end / func int -> int ; / get 0 / func -> ; / call 1"),
		parse(t, "func -> ; / call 1 / func -> ; / call 0"),
		parse(t, "func -> ; / if / func -> ; / mul"),
		parse(t, "func -> ; / mul / func -> ; / end"),
		script(exactly(api.MaxGas)), script(exactly(tooMuch), read(t, "call 0")),
		chain(2, read(t, "mul")),
	}
	for _, s := range wrongScripts() {
		l = append(l, s)
	}
	return l
}

func TestP901ScriptsAreNotChanged(t *testing.T) {
	for _, s := range someScripts(t) {
		s = roomyScript(s)
		was := code.Clone(wholeRoom(s))
		bound.Funcs(s)
		bound.Total(s)
		if !code.Same(wholeRoom(s), was) {
			t.Errorf("changed from %+v to %+v", was, wholeRoom(s))
		}
	}
}

// TestP901AnswersAreNew: writing all over an answer, and the room behind it,
// changes no other answer and no argument.
func TestP901AnswersAreNew(t *testing.T) {
	s := roomyScript(parse(t, "func -> ; / call 1 / call 2 / func -> ; / call 2 / func -> ; / mul"))
	was := code.Clone(wholeRoom(s))
	l, _ := bound.Funcs(s)
	other, _ := bound.Funcs(s)
	for i := range l[:cap(l)] {
		l[:cap(l)][i] = 99
	}
	if !slices.Equal(other, []int{19, 7, 2}) {
		t.Errorf("the other answer is %v", other)
	}
	if !code.Same(wholeRoom(s), was) {
		t.Errorf("changed from %+v to %+v", was, wholeRoom(s))
	}
	wantBounds(t, s, 19, 7, 2)
}

// TestP901Again: the same arguments get the same answers, however often and
// whatever was asked in between.
func TestP901Again(t *testing.T) {
	type answer struct {
		total, funcs api.Errno
		gas, count   int
	}
	ask := func(s api.Script) (a answer) {
		var l []int
		l, a.funcs = bound.Funcs(s)
		a.gas, a.total = bound.Total(s)
		a.count = len(l)
		return a
	}
	scripts := someScripts(t)
	var first []answer
	for _, s := range scripts {
		first = append(first, ask(s))
	}
	for range 3 {
		for i, s := range slices.Backward(scripts) {
			if a := ask(s); a != first[i] {
				t.Errorf("%+v: %v, and %v at first", s, a, first[i])
			}
		}
		for text, want := range blocks {
			wantPart(t, read(t, text), want)
		}
	}
}
