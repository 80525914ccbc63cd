package slow_test

import (
	"bytes"
	"math"
	"slices"
	"strings"
	"testing"

	"weighhouse/api"
	"weighhouse/code"
	"weighhouse/op"
	"weighhouse/slow"
	"weighhouse/store"
	"weighhouse/value"
)

// wantOnly holds a run to an error, no gas, and nothing else.
func wantOnly(t *testing.T, what string, r slow.Result, e api.Errno) {
	t.Helper()
	if !same(r, slow.Result{E: e}) {
		t.Errorf("%s: %+v, want error %d alone", what, r, e)
	}
}

// saves is a script that changes a transaction and emits, if it is run at all.
const saves = "const x'6b' / func -> int ; / const 0 / const 0 / save / const 0 / emit / int 5"

func TestP1202NoTx(t *testing.T) {
	var zero store.Tx
	for what, x := range map[string]*store.Tx{"nil": nil, "not made": {}, "a zero one": &zero, "new": new(store.Tx), "begun of nil": store.Begin(nil), "begun of none": store.Begin(new(store.Store))} {
		for _, text := range []string{saves, "func -> ;", "func -> ; / abort"} {
			for _, limit := range []int{0, 1, 1000, api.MaxGas} {
				wantOnly(t, what, slow.Run(parse(text), nil, x, limit), api.ErrArg)
			}
		}
	}
}

func TestP1202Limits(t *testing.T) {
	x := store.Begin(stored(t, "a", "1"))
	for _, limit := range []int{-1, -2, -api.MaxGas, math.MinInt, math.MinInt + 1, api.MaxGas + 1, 2 * api.MaxGas, 1 << 32, math.MaxInt} {
		wantOnly(t, "limit", slow.Run(parse(saves), nil, x, limit), api.ErrArg)
		wantOnly(t, "limit", slow.Run(parse("func -> ;"), nil, x, limit), api.ErrArg)
	}
	for _, limit := range []int{0, 1, api.MaxGas - 1, api.MaxGas} {
		wantOnly(t, "limit", slow.Run(parse("func -> ;"), nil, x, limit), api.OK)
	}
	if len(x.Changes()) != 0 {
		t.Error("changes:", x.Changes())
	}
}

// wrongScripts are such as may not be.
func wrongScripts() map[string]api.Script {
	one := func(f api.Func) api.Script { return api.Script{Consts: []string{"k"}, Funcs: []api.Func{f}} }
	does := func(n, a int) api.Script { return one(api.Func{Code: []api.Instr{{Op: n, A: a}}}) }
	m := map[string]api.Script{
		"nothing":             {},
		"no function":         {Consts: []string{"k"}, Funcs: []api.Func{}},
		"too many functions":  {Funcs: make([]api.Func, api.MaxFuncs+1)},
		"too many constants":  {Consts: make([]string, api.MaxConsts+1), Funcs: make([]api.Func, 1)},
		"a long constant":     {Consts: []string{strings.Repeat("k", api.MaxValue+1)}, Funcs: make([]api.Func, 1)},
		"a type 0":            one(api.Func{Params: []int{0}}),
		"a type 4":            one(api.Func{Results: []int{4}}),
		"a Local of no type":  one(api.Func{Locals: []int{-1}}),
		"too many Params":     one(api.Func{Params: slices.Repeat([]int{1}, api.MaxTypes+1)}),
		"too many Results":    one(api.Func{Results: slices.Repeat([]int{1}, api.MaxTypes+1)}),
		"too many Locals":     one(api.Func{Locals: slices.Repeat([]int{1}, api.MaxLocals+1)}),
		"too long":            one(api.Func{Code: slices.Repeat([]api.Instr{{Op: op.True}}, api.MaxCode+1)}),
		"no operation":        does(0, 0),
		"an operation past":   does(op.Call+1, 0),
		"an operation below":  does(-1, 0),
		"a huge operation":    does(math.MaxInt, 0),
		"a number of none":    does(op.Abort, 1),
		"a constant past":     does(op.PushConst, 1),
		"a constant below":    does(op.PushConst, -1),
		"a slot past":         does(op.Get, 0),
		"a slot to set past":  does(op.Set, 0),
		"a function past":     does(op.Call, 1),
		"a function below":    does(op.Call, math.MinInt),
		"rounds that are 0":   one(api.Func{Code: []api.Instr{{Op: op.Loops}, {Op: op.End}}}),
		"rounds below 0":      one(api.Func{Code: []api.Instr{{Op: op.Loops, A: -1}, {Op: op.End}}}),
		"too many rounds":     one(api.Func{Code: []api.Instr{{Op: op.Loops, A: api.MaxLoop + 1}, {Op: op.End}}}),
		"behind what is done": one(api.Func{Code: []api.Instr{{Op: op.Abort}, {Op: 99}}}),
	}
	never := parse(saves)
	never.Funcs = append(never.Funcs, api.Func{Code: []api.Instr{{Op: op.Get}}})
	m["a function that is never called"] = never
	return m
}

func TestP1202WrongScripts(t *testing.T) {
	x := store.Begin(stored(t, "a", "1"))
	for what, s := range wrongScripts() {
		if code.Right(s) {
			t.Error(what, "may be")
		}
		for _, limit := range []int{0, 1000, api.MaxGas} {
			wantOnly(t, what, slow.Run(s, nil, x, limit), api.ErrScript)
		}
	}
	if len(x.Changes()) != 0 {
		t.Error("changes:", x.Changes())
	}
}

// badShapes are functions that are not of good shape.
var badShapes = []string{
	"end", "else", "true / leave", "true / if", "loop 2", "loop 2 / else / end", "true / if / else / else / end",
	"true / if / end / end", "true / if / true / leave / end", "loop 2 / true / if / else",
	"loop 1 / loop 1 / loop 1 / loop 1 / loop 1 / loop 1 / loop 1 / loop 1 / loop 1 / end / end / end / end / end / end / end / end / end",
}

func TestP1202BadShapes(t *testing.T) {
	x := store.Begin(stored(t, "a", "1"))
	for _, bad := range badShapes {
		for _, text := range []string{
			"func -> ; / " + bad,
			"func -> ; / abort / " + bad,
			saves + " / " + bad,
			saves + " / func -> ; / " + bad, // never called
			saves + " / func -> ; / func int -> bool ; / " + bad + " / func -> ; / abort",
		} {
			wantOnly(t, text, slow.Run(parse(text), nil, x, 1000), api.ErrShape)
			wantOnly(t, text, slow.Run(parse(text), nil, x, 0), api.ErrShape)
		}
	}
	wantOnly(t, "as deep as may be", slow.Run(parse("func -> ; / abort"+lines(8, "loop 1")+lines(8, "end")), nil, x, 0), api.ErrGas)
	if len(x.Changes()) != 0 {
		t.Error("changes:", x.Changes())
	}
}

func TestP1202Arguments(t *testing.T) {
	x := store.Begin(stored(t, "a", "1"))
	heads := map[string][]string{ // what does not fit
		"":                {"1", "x''", "true", "1 2"},
		"int":             {"", "x''", "true", "1 2", "1 true"},
		"bytes":           {"", "1", "true", "x'' x''"},
		"bool":            {"", "1", "x''", "true true", "0"},
		"int bytes bool":  {"", "1", "1 x''", "1 x'' true 1", "true x'' 1", "x'' 1 true", "1 x'' 1", "1 1 true"},
		"int int int int": {"1 1 1", "1 1 1 1 1", "1 1 1 true"},
	}
	for head, l := range heads {
		s := parse(strings.Replace("const x'6b' / func "+head+" -> int ; / const 0 / const 0 / save / int 5", "func  ->", "func ->", 1))
		for _, args := range l {
			wantOnly(t, head+": "+args, slow.Run(s, values(args), x, 1000), api.ErrArgs)
			wantOnly(t, head+": "+args, slow.Run(s, values(args), x, 0), api.ErrArgs)
		}
	}
	s := parse("func int bytes bool -> ; / abort")
	right := []api.Value{value.Number(1), value.Text("a"), value.Truth(true)}
	for at, l := range [][]api.Value{
		{{Type: 1, N: 1, B: "x"}, {Type: 0}, {Type: 4}, {Type: -1}},
		{{Type: 2, N: 1}, {Type: 2, B: strings.Repeat("v", api.MaxValue+1)}, {}},
		{{Type: 3, N: 2}, {Type: 3, N: -1}, {Type: 3, B: "x"}, {Type: 3, N: math.MaxInt}},
	} {
		for _, v := range l {
			args := slices.Clone(right)
			args[at] = v
			wantOnly(t, "a value that may not be", slow.Run(s, args, x, 1000), api.ErrArgs)
		}
	}
	wantOnly(t, "very many", slow.Run(s, make([]api.Value, 1<<20), x, 1000), api.ErrArgs)
	if r := slow.Run(s, right, x, 1000); !same(r, slow.Result{Gas: 1, E: api.ErrAbort}) {
		t.Errorf("arguments that fit: %+v", r)
	}
	if len(x.Changes()) != 0 {
		t.Error("changes:", x.Changes())
	}
}

// TestP1202OtherFunctionsParams: only the first function's Params count.
func TestP1202OtherFunctionsParams(t *testing.T) {
	wantRows(t, store.New(), []row{
		{"func -> ; / func int -> ;", "", "", 0, api.OK},
		{"func int -> ; / func -> ;", "1", "", 0, api.OK},
		{"func int -> ; / func -> ;", "", "", 0, api.ErrArgs},
		{"func -> int ; int", "1", "", 0, api.ErrArgs},
	})
}

// TestP1202Order: where several are wrong, the first one is told.
func TestP1202Order(t *testing.T) {
	made := store.Begin(store.New())
	right, bad := parse("func -> ; / abort"), parse("func -> ; / abort / end")
	wrong := code.Clone(bad) // wrong behind what is of no good shape
	wrong.Funcs = append(wrong.Funcs, api.Func{Code: []api.Instr{{Op: 99}}})
	fit, other := []api.Value(nil), values("1")
	for _, x := range []*store.Tx{nil, made} {
		for _, limit := range []int{-1, 0, 5, api.MaxGas + 1} {
			for _, s := range []api.Script{right, bad, wrong} {
				for _, args := range [][]api.Value{fit, other} {
					want := slow.Result{Gas: 1, E: api.ErrAbort}
					switch {
					case x == nil, limit < 0, limit > api.MaxGas:
						want = slow.Result{E: api.ErrArg}
					case len(s.Funcs) == 2:
						want = slow.Result{E: api.ErrScript}
					case len(s.Funcs[0].Code) == 2:
						want = slow.Result{E: api.ErrShape}
					case len(args) == 1:
						want = slow.Result{E: api.ErrArgs}
					case limit == 0:
						want = slow.Result{E: api.ErrGas}
					}
					if r := slow.Run(s, args, x, limit); !same(r, want) {
						t.Errorf("limit %d, %v, %v: %+v, want %+v", limit, s, args, r, want)
					}
				}
			}
		}
	}
}

// mixed is a script with a bit of each kind.
const mixed = "const x'6b' / const x'6b6b' / func int bytes -> int bytes bytes bool ; int / get 0 / set 2 / loop 3 / get 2 / call 1 / set 2 / get 2 / pack / emit / end / const 0 / get 1 / save / get 2 / get 1 / const 1 / get 1 / save / const 1 / load / func int -> int ; / get 0 / dup / add"

func TestP1201HandedInStays(t *testing.T) {
	s := parse(mixed)
	// room behind each list, with something in it
	s.Consts = append(s.Consts, "room")[:2]
	s.Funcs = append(s.Funcs, api.Func{Params: []int{3}})[:2]
	for i := range s.Funcs {
		f := &s.Funcs[i]
		f.Params, f.Results, f.Locals = append(f.Params, 7)[:len(f.Params)], append(f.Results, 7)[:len(f.Results)], append(f.Locals, 7)[:len(f.Locals)]
		f.Code = append(f.Code, api.Instr{Op: 77})[:len(f.Code)]
	}
	whole := func() api.Script {
		c := api.Script{Consts: s.Consts[:3], Funcs: slices.Clone(s.Funcs[:3])}
		for i := range s.Funcs {
			f := &c.Funcs[i]
			f.Params, f.Results, f.Locals, f.Code = f.Params[:len(f.Params)+1], f.Results[:len(f.Results)+1], f.Locals[:len(f.Locals)+1], f.Code[:len(f.Code)+1]
		}
		return code.Clone(c)
	}
	args := append(values("5 x'76'"), value.Truth(true))
	was, kept := whole(), slices.Clone(args)
	for range 2 {
		for limit := range 400 {
			slow.Run(s, args[:2], store.Begin(store.New()), limit)
		}
	}
	if !code.Same(whole(), was) || !slices.Equal(args, kept) {
		t.Error("a run has changed what it was handed")
	}
}

// TestP1201AnswersAreNew: writing all over an answer, and the room behind it,
// changes nothing else.
func TestP1201AnswersAreNew(t *testing.T) {
	s := parse("func int bytes -> bytes int int ; / get 1 / emit / get 1 / get 0 / get 0")
	args := values("5 x'76'")
	x := store.Begin(store.New())
	first, second := slow.Run(s, args, x, 100), slow.Run(s, args, x, 100)
	want := slow.Result{Out: values("x'76' 5 5"), Emits: []string{"v"}, Gas: 14}
	for i := range first.Out[:cap(first.Out)] {
		first.Out[:cap(first.Out)][i] = value.Truth(true)
	}
	for i := range first.Emits[:cap(first.Emits)] {
		first.Emits[:cap(first.Emits)][i] = "spoilt"
	}
	if !same(second, want) || !slices.Equal(args, values("5 x'76'")) || !same(slow.Run(s, args, x, 100), want) {
		t.Error("an answer shares its memory")
	}
	// and writing over what was handed in changes no answer
	clear(args)
	for i := range s.Funcs {
		clear(s.Funcs[i].Code)
		clear(s.Funcs[i].Results)
	}
	if !same(second, want) {
		t.Error("an answer shares the memory that was handed in")
	}
}

func TestP1201NilIsEmpty(t *testing.T) {
	empty := api.Func{Params: []int{}, Results: []int{}, Locals: []int{}, Code: []api.Instr{}}
	for _, s := range []api.Script{{Funcs: []api.Func{{}}}, {Consts: []string{}, Funcs: []api.Func{empty}}} {
		for _, args := range [][]api.Value{nil, {}} {
			wantOnly(t, "nothing", slow.Run(s, args, store.Begin(store.New()), 0), api.OK)
		}
	}
	wantOnly(t, "no script", slow.Run(api.Script{Consts: []string{}, Funcs: []api.Func{}}, nil, store.Begin(store.New()), 0), api.ErrScript)
}

// TestP1201TransactionAlone: a run changes the transaction, not its store, and
// not another transaction of it.
func TestP1201TransactionAlone(t *testing.T) {
	on := stored(t, "a", "1", "b", "2")
	x, other := store.Begin(on), store.Begin(on)
	was := on.Bytes()
	s := parse("const x'61' / const x'63' / func -> ; / const 0 / wipe / const 1 / const 0 / save")
	if r := slow.Run(s, nil, x, 1000); r.E != api.OK {
		t.Error(r)
	}
	if got := shown(x); !slices.Equal(got, []string{"b", "2", "c", "a"}) {
		t.Errorf("the transaction shows %q", got)
	}
	if l := x.Changes(); !slices.Equal(l, []store.Pair{{Key: "a"}, {Key: "c", Value: "a"}}) {
		t.Errorf("changes: %q", l)
	}
	if !bytes.Equal(on.Bytes(), was) || len(other.Changes()) != 0 {
		t.Error("more than the transaction has changed")
	}
	if e := x.Commit(); e != api.OK || !slices.Equal(shown(store.Begin(on)), []string{"b", "2", "c", "a"}) {
		t.Errorf("behind Commit: %d, %q", e, on.Scan("", "", 0))
	}
}

// TestP1201NothingDone: a run that does nothing, or is none, changes nothing,
// whatever keys are there.
func TestP1201NothingDone(t *testing.T) {
	on := stored(t, "", "v")
	for c := 'a'; c <= 'z'; c++ {
		for _, n := range []int{1, api.MaxKey - 1, api.MaxKey} {
			on.Put(strings.Repeat(string(c), n), "v")
		}
	}
	x := store.Begin(on)
	x.Save("other", "v")
	was := shown(x)
	for range 2 {
		wantOnly(t, "nothing", slow.Run(parse("func -> ;"), nil, x, 100), api.OK)
		wantOnly(t, "no limit", slow.Run(parse(saves), nil, x, -1), api.ErrArg)
		wantOnly(t, "no gas", slow.Run(parse(saves), nil, x, 0), api.ErrGas)
		wantOnly(t, "no script", slow.Run(api.Script{}, nil, x, 100), api.ErrScript)
	}
	if l := x.Changes(); len(l) != 1 || !slices.Equal(shown(x), was) {
		t.Errorf("changes: %q", l)
	}
}

// TestP1202OwnChanges: a run sees the changes that its transaction had before,
// and a later run those of an earlier one.
func TestP1202OwnChanges(t *testing.T) {
	on := stored(t, "a", "1", "b", "2")
	x := store.Begin(on)
	x.Save("k", "9")
	x.Wipe("a")
	look := parse("const x'6b' / const x'61' / func -> bytes bool bool bytes bool ; / const 0 / load / const 1 / has / const 1 / next")
	want := slow.Result{Out: values("x'39' true false x'62' true"), Gas: 58}
	if r := slow.Run(look, nil, x, 1000); !same(r, want) {
		t.Errorf("%+v, want %+v", r, want)
	}
	slow.Run(parse("const x'6b' / const x'61' / func -> ; / const 0 / wipe / const 1 / const 0 / save / const 1 / const 1 / save"), nil, x, 1000)
	want.Out = values("x'' false true x'62' true")
	if r := slow.Run(look, nil, x, 1000); !same(r, want) {
		t.Errorf("%+v, want %+v", r, want)
	}
	if got := shown(x); !slices.Equal(got, []string{"a", "a", "b", "2"}) {
		t.Errorf("the transaction shows %q", got)
	}
	x.Commit()
	if r := slow.Run(look, nil, store.Begin(on), 1000); !same(r, want) {
		t.Errorf("behind Commit: %+v, want %+v", r, want)
	}
}

// TestP1202StepsAheadOfAnError: what they did to the transaction is done; its
// store stays.
func TestP1202StepsAheadOfAnError(t *testing.T) {
	head := "const x'6b' / const x'61' / func -> ; / const 0 / const 1 / save / const 1 / wipe / "
	for tail, e := range map[string]api.Errno{
		"abort": api.ErrAbort, "int 1 / int 0 / rem": api.ErrZero, "add": api.ErrStack, "true": api.ErrStack,
		"true / neg": api.ErrType, "call 0": api.ErrCall, "loop 64 / loop 64 / end / end": api.ErrGas,
	} {
		on := stored(t, "a", "1", "b", "2")
		x, was := store.Begin(on), on.Bytes()
		if r := slow.Run(parse(head+tail), nil, x, 2000); r.E != e {
			t.Errorf("%s: %+v", tail, r)
		}
		if got := shown(x); !slices.Equal(got, []string{"b", "2", "k", "a"}) {
			t.Errorf("%s: the transaction shows %q", tail, got)
		}
		if !bytes.Equal(on.Bytes(), was) {
			t.Errorf("%s: the store has changed", tail)
		}
	}
}
