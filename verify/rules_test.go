package verify_test

import (
	"fmt"
	"math"
	"slices"
	"testing"

	"weighhouse/api"
	"weighhouse/code"
	"weighhouse/op"
	"weighhouse/value"
	"weighhouse/verify"
)

// mixed is a script in which much stands.
const mixed = "const x'61' / const x'' / func int bytes -> int bool ; bytes / get 0 / call 2 / drop / get 1 / call 1" +
	" / func bytes -> int bool ; bool int / loop 3 / get 1 / leave / int 3 / call 2 / drop / end / int 7 / get 0 / const 0 / same" +
	" / func int -> int ; bool / get 0 / dup / mul / func -> ; / abort"

func TestP1002Mixed(t *testing.T) {
	square := 1 + 1 + 2
	second := 2 + 3*(1+1+1+5+square+1+1) + 1 + 1 + 1 + 4
	first := 1 + 5 + square + 1 + 1 + 5 + second
	wantReport(t, parse(t, mixed),
		needs{first, []int{2, 3, 2, 0}, []int{3, 2, 1, 1}, []int{2, 1, 0, 3}, []int{3 + 2 + 10, 3 + 3 + 4, 2 + 2, 0}})
}

// roomy answers a copy of a list with room behind it that holds n.
func roomy[T any](l []T, n T) []T {
	return append(slices.Clone(l), n, n, n)[:len(l)]
}

// withRoom answers a list with the room that roomy made behind it.
func withRoom[T any](l []T) []T {
	return l[: len(l)+3 : len(l)+3]
}

// roomyScript answers a copy of s, each of its lists with room behind it.
func roomyScript(s api.Script) api.Script {
	funcs := roomy(s.Funcs, api.Func{Params: []int{3}})
	for i, f := range funcs {
		funcs[i] = api.Func{Params: roomy(f.Params, 3), Results: roomy(f.Results, 3), Locals: roomy(f.Locals, 3), Code: roomy(f.Code, api.Instr{Op: op.If})}
	}
	return api.Script{Consts: roomy(s.Consts, "room"), Funcs: funcs}
}

// wholeRoom answers a script of roomyScript whose lists have their room within.
func wholeRoom(s api.Script) api.Script {
	var funcs []api.Func
	for _, f := range s.Funcs {
		funcs = append(funcs, api.Func{Params: withRoom(f.Params), Results: withRoom(f.Results), Locals: withRoom(f.Locals), Code: withRoom(f.Code)})
	}
	return api.Script{Consts: withRoom(s.Consts), Funcs: append(funcs, withRoom(s.Funcs)[len(s.Funcs):]...)}
}

func someScripts(t *testing.T) []api.Script {
	l := []api.Script{script(exactly(api.MaxGas)), script(exactly(api.MaxGas + 1))}
	for _, text := range []string{mixed, "func -> ;", "func -> ; / call 1 / func -> ; / call 0", "func -> ; / if", "func -> ; / add", "func -> int ; / true",
		"func int -> int ; bool / get 0 / call 1 / func int -> int ; / get 0 / dup / add"} {
		l = append(l, parse(t, text))
	}
	for _, s := range wrongScripts() {
		l = append(l, s)
	}
	return l
}

func TestP1001NilIsEmpty(t *testing.T) {
	zero := needs{0, []int{0, 0}, []int{1, 1}, []int{0, 1}, []int{0, 0}}
	for _, l := range [][]int{nil, {}, make([]int, 0, 4)} {
		for _, c := range [][]api.Instr{nil, {}, make([]api.Instr, 0, 4)} {
			for _, consts := range [][]string{nil, {}, make([]string, 0, 4)} {
				f := api.Func{Params: l, Results: l, Locals: l, Code: c}
				s := api.Script{Consts: consts, Funcs: []api.Func{f, f}}
				wantReport(t, s, zero)
				for _, args := range [][]api.Value{nil, {}, make([]api.Value, 0, 4)} {
					if !verify.Fits(s, args) {
						t.Errorf("%+v: %#v do not fit", s, args)
					}
				}
			}
		}
	}
	for _, s := range []api.Script{{}, {Consts: []string{}, Funcs: []api.Func{}}} {
		wantError(t, s, api.ErrScript)
		if verify.Fits(s, nil) || verify.Fits(s, []api.Value{}) {
			t.Errorf("%#v: Fits", s)
		}
	}
	for _, b := range [][]byte{nil, {}, make([]byte, 0, 4)} {
		if r, e := verify.Check(b); e != api.ErrScript || !isZero(r) {
			t.Errorf("Check of %#v: %+v, error %d", b, r, e)
		}
	}
}

// TestP1001RoomDoesNotCount: what stands behind the end of a list is none of it.
func TestP1001RoomDoesNotCount(t *testing.T) {
	s := roomyScript(parse(t, "func int -> int ; bool / get 0 / call 1 / func int -> int ; / get 0 / dup / add"))
	want := needs{9, []int{1, 2}, []int{2, 1}, []int{1, 0}, []int{6, 3}}
	wantReport(t, s, want)
	r, e := verify.Check(roomy(put(t, s), 0))
	if e != api.OK || !want.are(r) {
		t.Errorf("Check of bytes with room: %+v, error %d", r, e)
	}
	if !verify.Fits(s, roomy([]api.Value{value.Number(1)}, value.Number(2))) || verify.Fits(s, roomy([]api.Value{}, value.Number(2))) {
		t.Error("Fits counts the room")
	}
}

func TestP1001NothingChanged(t *testing.T) {
	for _, s := range someScripts(t) {
		s = roomyScript(s)
		was := code.Clone(wholeRoom(s))
		args := roomy([]api.Value{value.Number(1), value.Text("a")}, value.Truth(true))
		verify.Of(s)
		verify.Fits(s, args)
		verify.Fits(s, args[:1])
		if !code.Same(wholeRoom(s), was) {
			t.Errorf("changed from %+v to %+v", was, wholeRoom(s))
		}
		if want := []api.Value{value.Number(1), value.Text("a"), value.Truth(true), value.Truth(true), value.Truth(true)}; !slices.Equal(withRoom(args), want) {
			t.Errorf("values are changed to %v", withRoom(args))
		}
		b, _ := code.Put(s)
		b = roomy(b, 0)
		before := slices.Clone(withRoom(b))
		verify.Check(b)
		if !slices.Equal(withRoom(b), before) {
			t.Errorf("bytes are changed from %v to %v", before, withRoom(b))
		}
	}
}

// held is one list of a report: how to write all over it, and the room behind
// it, and how it looks.
type held struct {
	name  string
	spoil func()
	look  func() string
}

func hold[T any](name string, l []T, n T) held {
	return held{name, func() {
		for i := range l[:cap(l)] {
			l[:cap(l)][i] = n
		}
	}, func() string { return fmt.Sprint(l) }}
}

// lists are those of a report and its script; that of the functions is the last.
func lists(r verify.Report) []held {
	l := []held{hold("Stacks", r.Stacks, 99), hold("Deep", r.Deep, 99), hold("Order", r.Order, 99), hold("Rooms", r.Rooms, 99), hold("Consts", r.Script.Consts, "other")}
	for i, f := range r.Script.Funcs {
		l = append(l, hold(fmt.Sprint("Params of ", i), f.Params, 99), hold(fmt.Sprint("Results of ", i), f.Results, 99),
			hold(fmt.Sprint("Locals of ", i), f.Locals, 99), hold(fmt.Sprint("Code of ", i), f.Code, api.Instr{Op: 99}))
	}
	return append(l, hold("Funcs", r.Script.Funcs, api.Func{}))
}

// TestP1001AnswersAreNew: writing all over one list of a report changes no other
// list of it, no argument and no other report.
func TestP1001AnswersAreNew(t *testing.T) {
	s := roomyScript(parse(t, mixed))
	b := put(t, s)
	was, bytes := code.Clone(wholeRoom(s)), slices.Clone(b)
	ask := map[string]func() (verify.Report, api.Errno){
		"Of":    func() (verify.Report, api.Errno) { return verify.Of(s) },
		"Check": func() (verify.Report, api.Errno) { return verify.Check(b) },
	}
	for name, call := range ask {
		twin, e := call()
		if e != api.OK {
			t.Fatalf("%s: error %d", name, e)
		}
		want := lists(twin)
		for spoilt := range want[:len(want)-1] { // the Funcs hold the others
			r, _ := call()
			l := lists(r)
			l[spoilt].spoil()
			for i := range l[:len(l)-1] {
				if i != spoilt && l[i].look() != want[i].look() {
					t.Errorf("%s: %s is %s behind a change of %s", name, l[i].name, l[i].look(), l[spoilt].name)
				}
			}
		}
		r, _ := call()
		for _, h := range lists(r) {
			h.spoil()
		}
		again, _ := call()
		for i, h := range lists(again) {
			if h.look() != want[i].look() {
				t.Errorf("%s: %s is %s behind changes of another report", name, h.name, h.look())
			}
		}
	}
	if !code.Same(wholeRoom(s), was) || !slices.Equal(b, bytes) {
		t.Error("what was handed in is changed by changes of reports")
	}
}

// TestP1001ScriptIsACopy: what is changed in the script that was handed in does
// not change the report.
func TestP1001ScriptIsACopy(t *testing.T) {
	s := parse(t, "const x'61' / func int -> int ; bool / get 0 / call 1 / func int -> int ; / get 0 / dup / add")
	was := code.Clone(s)
	r, _ := verify.Of(s)
	s.Consts[0] = "other"
	s.Funcs[0].Params[0], s.Funcs[0].Results[0], s.Funcs[0].Locals[0] = 3, 3, 1
	s.Funcs[1].Code[0] = api.Instr{Op: op.Abort}
	s.Funcs[0] = api.Func{}
	if !code.Same(r.Script, was) {
		t.Errorf("the report's script is %+v behind changes of the other one", r.Script)
	}
	b := put(t, was)
	r, _ = verify.Check(b)
	clear(b)
	if !code.Same(r.Script, was) {
		t.Errorf("the report's script is %+v behind changes of the bytes", r.Script)
	}
}

// TestP1001Again: the same arguments get the same answers, whatever was asked in
// between.
func TestP1001Again(t *testing.T) {
	scripts := someScripts(t)
	ask := func(s api.Script) string {
		r, e := verify.Of(s)
		return fmt.Sprint(r, e, verify.Fits(s, nil))
	}
	var first []string
	for _, s := range scripts {
		first = append(first, ask(s))
	}
	for range 3 {
		for i, s := range slices.Backward(scripts) {
			if got := ask(s); got != first[i] {
				t.Errorf("%+v: %s, and %s at first", s, got, first[i])
			}
		}
	}
}

// TestP1001Huge: long lists and far numbers are answered as well.
func TestP1001Huge(t *testing.T) {
	far := []int{math.MinInt, -1, math.MaxInt}
	for _, n := range far {
		for o := range op.Call + 2 {
			s := script([]api.Instr{{Op: o, A: n}})
			if _, e := verify.Of(s); o != op.PushInt && e != api.ErrScript || o == op.PushInt && e != api.ErrStack {
				t.Errorf("operation %d, %d: error %d", o, n, e)
			}
		}
		wantError(t, script([]api.Instr{{Op: n, A: n}}), api.ErrScript)
		wantError(t, api.Script{Funcs: []api.Func{{Params: []int{n}}}}, api.ErrScript)
	}
	wantError(t, api.Script{Funcs: make([]api.Func, 100000)}, api.ErrScript)
	wantError(t, api.Script{Consts: make([]string, 100000), Funcs: make([]api.Func, 1)}, api.ErrScript)
	wantError(t, script(make([]api.Instr, 1000000)), api.ErrScript)
	if verify.Fits(script(nil), make([]api.Value, 1000000)) {
		t.Error("Fits")
	}
}
