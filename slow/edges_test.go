package slow_test

import (
	"fmt"
	"slices"
	"strings"
	"testing"

	"weighhouse/api"
	"weighhouse/bound"
	"weighhouse/op"
	"weighhouse/slow"
	"weighhouse/store"
	"weighhouse/value"
)

// lines answers a line so many times, each behind " / ".
func lines(n int, line string) string {
	return strings.Repeat(" / "+line, n)
}

// example answers a value of each type.
func example(kind int) api.Value {
	return []api.Value{value.Number(1), value.Text("a"), value.Truth(true)}[kind-1]
}

func examples(kinds []int) (l []api.Value) {
	for _, kind := range kinds {
		l = append(l, example(kind))
	}
	return l
}

// takers are all instructions with what they take off the stack, the last one
// from the top; 0 is any type. Scripts that they stand in have the slot 0 of
// Int, and a function 1 with Params.
func takers() map[api.Instr][]int {
	m := map[api.Instr][]int{{Op: op.Set}: {api.Int}, {Op: op.Call, A: 1}: {api.Bool, api.Bytes, api.Int}}
	for n := op.PushInt; n <= op.Call; n++ {
		if n != op.Set && n != op.Call && len(op.In(n)) > 0 {
			m[api.Instr{Op: n}] = op.In(n)
		}
	}
	return m
}

// taking answers a script that does x where these values stand on the stack; an
// if and a leave stand in their blocks there.
func taking(x api.Instr, l []api.Value) api.Script {
	s := on(x, nil, l...)
	f := &s.Funcs[0]
	f.Locals = []int{api.Int}
	switch x.Op {
	case op.If:
		f.Code = append(f.Code, api.Instr{Op: op.End})
	case op.Leave:
		f.Code = slices.Concat([]api.Instr{{Op: op.Loops, A: 1}}, f.Code, []api.Instr{{Op: op.End}})
	}
	s.Funcs = append(s.Funcs, api.Func{Params: []int{api.Bool, api.Bytes, api.Int}})
	return s
}

func wantTaking(t *testing.T, x api.Instr, l []api.Value, e api.Errno) {
	t.Helper()
	gas := len(l) + cost(x.Op)
	if x.Op == op.Leave {
		gas += cost(op.Loops)
	}
	wantResult(t, taking(x, l), nil, store.New(), slow.Result{Gas: gas, E: e})
}

// TestP1202TooFew: where there is none to be taken.
func TestP1202TooFew(t *testing.T) {
	told := 0
	for x, in := range takers() {
		for i, kind := range in {
			if kind == 0 {
				in[i] = api.Bytes
			}
		}
		for n := range in {
			wantTaking(t, x, examples(in[len(in)-n:]), api.ErrStack)
			told++
		}
	}
	if told < 60 {
		t.Error("only", told)
	}
}

// TestP1202OtherType: each value that is taken is of another type once, also
// where there are too few below it.
func TestP1202OtherType(t *testing.T) {
	told := 0
	for x, in := range takers() {
		for at, want := range in {
			for kind := api.Int; kind <= api.Bool; kind++ {
				if want == 0 || kind == want {
					continue
				}
				l := slices.Clone(in)
				l[at] = kind
				for low := range at + 1 {
					wantTaking(t, x, examples(l[low:]), api.ErrType)
					told++
				}
			}
		}
	}
	if told < 120 {
		t.Error("only", told)
	}
}

// TestP1202GasFirst: without enough gas nothing is taken, and nothing is done.
func TestP1202GasFirst(t *testing.T) {
	for _, c := range []struct {
		text  string
		limit int
	}{
		{"func -> ; / add", 0},
		{"func -> ; / save", 29},
		{"func -> ; / true / load", 20},
		{"func -> ; / abort", 0},
		{"func -> ; / call 0", 79},
		{"func -> int ; / int 1 / int 0 / div", 5},
		{"func -> int ; / true", 0},
	} {
		want := slow.Result{Gas: c.limit, E: api.ErrGas}
		if r := slow.Run(parse(c.text), nil, store.Begin(store.New()), c.limit); !same(r, want) {
			t.Errorf("%q, limit %d: %+v", c.text, c.limit, r)
		}
	}
	s := parse("const x'6b' / func -> ; / const 0 / const 0 / save / const 0 / wipe")
	for limit, want := range map[int]int{31: 0, 32: 1, 57: 1, 58: 0} {
		x := store.Begin(store.New())
		slow.Run(s, nil, x, limit)
		if got := len(x.Changes()); got != want {
			t.Errorf("limit %d: %d changes, want %d", limit, got, want)
		}
	}
}

// TestP1202EachLimit: of each limit below what is needed, all of it is taken.
func TestP1202EachLimit(t *testing.T) {
	s := parse("const x'6b' / func int -> int ; / get 0 / loop 3 / int 2 / call 1 / const 0 / emit / end / const 0 / get 0 / pack / save / func int int -> int ; / get 0 / get 1 / mul / true / if / neg / end")
	const need = 1 + 2 + 3*(1+5+8+11+1) + 35
	for limit := range need + 5 {
		want := slow.Result{Gas: limit, E: api.ErrGas}
		if limit >= need {
			want = slow.Result{Out: values("-24"), Emits: []string{"k", "k", "k"}, Gas: need}
		}
		if r := slow.Run(s, values("3"), store.Begin(store.New()), limit); !same(r, want) {
			t.Errorf("limit %d: %+v, want %+v", limit, r, want)
		}
	}
}

func TestP1202NoGas(t *testing.T) {
	for _, c := range []row{
		{"func -> ;", "", "", 0, api.OK},
		{"func int -> ; bool", "1", "", 0, api.OK},
		{"func -> int ;", "", "", 0, api.ErrStack},
		{"func -> ; / true", "", "", 0, api.ErrGas},
	} {
		want := slow.Result{Out: values(c.out), Gas: c.gas, E: c.e}
		if r := slow.Run(parse(c.text), values(c.args), store.Begin(store.New()), 0); !same(r, want) {
			t.Errorf("%q, limit 0: %+v, want %+v", c.text, r, want)
		}
	}
}

// nest answers a text of loops within loops that takes just so much gas: as many
// rounds as can be, then neg by neg.
func nest(gas int) string {
	text := ""
	for _, depth := range []int{3, 2, 1} {
		open, fixed, rounds := lines(depth, "loop 64"), 2, 1
		for i := range depth {
			rounds *= 64
			if i > 0 {
				fixed += 3 * rounds / 64
			}
		}
		if inner := (gas - fixed) / rounds; inner > 0 {
			text += open + lines(inner-1, "neg") + lines(depth, "end")
			gas -= fixed + inner*rounds
		}
	}
	return text + lines(gas, "neg")
}

// TestP1202MaxGas: a run that takes MaxGas, and one that takes one more.
func TestP1202MaxGas(t *testing.T) {
	for _, n := range []int{1, 100, 5000, 300000, api.MaxGas} {
		s := parse("func -> int ; / int 1" + nest(n-1))
		r := slow.Run(s, nil, store.Begin(store.New()), api.MaxGas)
		if r.E != api.OK || r.Gas != n || len(r.Out) != 1 {
			t.Errorf("%d: %+v", n, r)
		}
		wantResult(t, s, nil, store.New(), r)
	}
	s := parse("func -> int ; / int 1" + nest(api.MaxGas))
	if b, e := bound.Funcs(s); e != api.OK || b[0] != api.MaxGas+1 {
		t.Error("the bound of one that takes one more:", b, e)
	}
	want := slow.Result{Gas: api.MaxGas, E: api.ErrGas}
	if r := slow.Run(s, nil, store.Begin(store.New()), api.MaxGas); !same(r, want) {
		t.Errorf("MaxGas and one more: %+v", r)
	}
	endless := "func -> ;" + lines(8, "loop 64") + lines(8, "end")
	if r := slow.Run(parse(endless), nil, store.Begin(store.New()), api.MaxGas); !same(r, want) {
		t.Errorf("rounds without an end: %+v", r)
	}
}

// TestP1202MaxStack: as many values as may stand there, and one more, put there
// by each instruction that puts some.
func TestP1202MaxStack(t *testing.T) {
	const most = api.MaxStack
	full := "func -> ; int" + lines(most, "true") + lines(most, "drop")
	wantRows(t, store.New(), []row{
		{full, "", "", 2 * most, api.OK},
		{"func -> ; int" + lines(most, "true") + " / true" + lines(most, "drop"), "", "", most + 1, api.ErrStack},
		{"func -> ; int" + lines(most, "true") + lines(200, "true"), "", "", most + 1, api.ErrStack},
		{"func -> ; int" + lines(most, "true") + " / swap / not / both" + lines(most-1, "drop"), "", "", 2*most + 2, api.OK},
	})
	for line, cost := range map[string]int{"int 5": 1, "const 0": 1, "true": 1, "false": 1, "dup": 1, "over": 1, "get 0": 1} {
		head := "const x'61' / func -> ; int" + lines(most-1, "true")
		wantRows(t, store.New(), []row{
			{head + " / " + line + lines(most, "drop"), "", "", 2*most - 1 + cost, api.OK},
			{head + " / true / " + line + lines(most+1, "drop"), "", "", most + cost, api.ErrStack},
		})
	}
	for line, cost := range map[string]int{"load": 20, "next": 20} {
		head := "const x'61' / func -> ;" + lines(most-2, "true")
		wantRows(t, store.New(), []row{
			{head + " / const 0 / " + line + lines(most, "drop"), "", "", 2*most - 1 + cost, api.OK},
			{head + " / true / const 0 / " + line + lines(most+1, "drop"), "", "", most + cost, api.ErrStack},
		})
	}
}

// TestP1202StackOfCalled: each frame has a stack of its own; what a called one
// leaves counts at the next step of the frame that it went to.
func TestP1202StackOfCalled(t *testing.T) {
	const most = api.MaxStack
	own := "func -> ;" + lines(most, "true") + lines(most, "drop")
	two := " / func -> bool bool ; / true / true"
	wantRows(t, store.New(), []row{
		{"func -> ;" + lines(most, "true") + " / call 1" + lines(most, "drop") + " / " + own, "", "", 4*most + 5, api.OK},
		{"func -> ;" + lines(most-2, "true") + " / call 1" + lines(most, "drop") + two, "", "", 2*most - 2 + 7, api.OK},
		{"func -> ;" + lines(most-1, "true") + " / call 1" + lines(most+1, "drop") + two, "", "", most - 1 + 7 + most + 1, api.OK},
		{"func -> ;" + lines(most, "true") + " / call 1" + lines(most+2, "drop") + two, "", "", most + 7 + 1, api.ErrStack},
		{"func -> ;" + lines(most-1, "true") + " / call 1 / not" + two, "", "", most - 1 + 7 + 1, api.ErrStack},
		{"func -> ;" + lines(most-1, "true") + " / call 1 / call 1" + two, "", "", most - 1 + 7 + 5, api.ErrStack},
		{"func -> ;" + lines(most-1, "true") + " / call 1" + two, "", "", most - 1 + 7, api.ErrStack},
		{"func -> ;" + lines(most, "true") + " / call 1 / call 2" + lines(most, "drop") + two + " / func bool bool -> ;", "", "", 2*most + 12, api.OK},
	})
}

// chain answers a script of functions each of which calls the next one; the last
// one does what tail says.
func chain(n int, tail string) string {
	text := "func -> ; / call 1"
	for f := 1; f < n-1; f++ {
		text += fmt.Sprintf(" / func -> ; / call %d", f+1)
	}
	return text + " / func -> ;" + tail
}

// TestP1202MaxFrames: MaxFuncs frames, and one more.
func TestP1202MaxFrames(t *testing.T) {
	const most = api.MaxFuncs
	down := "func int -> int ; / get 0 / int 0 / gt / if / get 0 / int 1 / sub / call 0 / else / int 7 / end"
	// the function 1 takes a value: each call of it lacks that, but for the first one
	lacking := func(n int) string {
		return strings.Replace(strings.Replace(chain(n, " / call 1"), "call 1", "true / call 1", 1), "func -> ; / call 2", "func bool -> ; / call 2", 1)
	}
	wantRows(t, store.New(), []row{
		{chain(most, " / true / drop"), "", "", 5*(most-1) + 2, api.OK},
		{chain(most, " / call 15"), "", "", 5 * most, api.ErrCall},
		{chain(most, " / call 0"), "", "", 5 * most, api.ErrCall},
		{"func -> ; / call 0", "", "", 5 * most, api.ErrCall},
		{"func -> ; / call 1 / func -> ; / call 0", "", "", 5 * most, api.ErrCall},
		{down, fmt.Sprint(most - 1), "7", (most-1)*13 + 6, api.OK},
		{down, fmt.Sprint(most), "", (most-1)*12 + 12, api.ErrCall},
		{lacking(most), "", "", 5*most + 1, api.ErrCall},
		{lacking(most - 1), "", "", 5*(most-1) + 1, api.ErrStack},
		// frames that have ended do not count
		{"func -> ;" + lines(40, "call 1") + " / func -> ; / true / drop", "", "", 280, api.OK},
	})
}

func TestP1202MaxEmits(t *testing.T) {
	for _, n := range []int{0, 1, api.MaxEmits - 1, api.MaxEmits, api.MaxEmits + 1, api.MaxEmits + 20} {
		text := "const x'6b' / func -> ;" + lines(n, "const 0 / emit")
		want := slow.Result{Emits: slices.Repeat([]string{"k"}, n), Gas: 11 * n}
		if n > api.MaxEmits {
			want = slow.Result{Gas: 11 * (api.MaxEmits + 1), E: api.ErrEmit}
		}
		wantResult(t, parse(text), nil, store.New(), want)
	}
	// of no bytes, in calls and in rounds
	loop := "const x'' / func -> ; / loop %d / call 1 / end / func -> ; / const 0 / emit"
	wantResult(t, parse(fmt.Sprintf(loop, 16)), nil, store.New(), slow.Result{Emits: make([]string, 16), Gas: 2 + 16*17})
	wantResult(t, parse(fmt.Sprintf(loop, 17)), nil, store.New(), slow.Result{Gas: 2 + 16*17 + 16, E: api.ErrEmit})
}

// TestP1202OnlyIfOK: beside each error there are neither Out nor Emits.
func TestP1202OnlyIfOK(t *testing.T) {
	full := store.New()
	for i := range api.MaxKeys {
		full.Put(fmt.Sprint("key", i), "")
	}
	for tail, e := range map[string]api.Errno{
		"int 1 / int 0 / div": api.ErrZero, "const 1 / wipe": api.ErrLong, "const 0 / int 5 / at": api.ErrIndex,
		"abort": api.ErrAbort, "loop 16 / const 0 / emit / end": api.ErrEmit, "const 0 / const 0 / save": api.ErrRoom,
		"call 0": api.ErrCall, "true": api.ErrStack, "not": api.ErrType, "drop / true": api.ErrType, "drop / drop": api.ErrStack,
		"loop 64 / loop 64 / end / end": api.ErrGas,
	} {
		head := "const x'6b' / const x'" + strings.Repeat("6b", api.MaxKey+1) + "' / func -> int ; / const 0 / emit / int 5"
		r := slow.Run(parse(head+" / "+tail), nil, store.Begin(full), 1000)
		if r.E != e || len(r.Out) != 0 || len(r.Emits) != 0 || r.Gas == 0 {
			t.Errorf("%s: %+v, want %d", tail, r, e)
		}
	}
}

// TestP1202Results: a function ends with values of its Results, be it the first
// one or one that was called.
func TestP1202Results(t *testing.T) {
	wantRows(t, store.New(), []row{
		{"func -> int ;", "", "", 0, api.ErrStack},
		{"func -> int int ; / int 1", "", "", 1, api.ErrStack},
		{"func -> int ; / int 1 / int 1", "", "", 2, api.ErrStack},
		{"func -> ; / int 1", "", "", 1, api.ErrStack},
		{"func -> int ; / true", "", "", 1, api.ErrType},
		{"const x'61' / func -> bytes int ; / int 1 / const 0", "", "", 2, api.ErrType},
		{"func -> bool bool ; / int 1 / true", "", "", 2, api.ErrType},
		{"func -> bool bool ; / true / int 1", "", "", 2, api.ErrType},
		// other ones, and too many: the count is asked first
		{"func -> bool ; / int 1 / int 1", "", "", 2, api.ErrStack},
		{"func -> bool bool ; / int 1", "", "", 1, api.ErrStack},
		{"func -> int ; / call 1 / func -> int ;", "", "", 5, api.ErrStack},
		{"func -> int ; / call 1 / func -> int ; / int 1 / int 2", "", "", 7, api.ErrStack},
		{"func -> int ; / call 1 / func -> int ; / true", "", "", 6, api.ErrType},
		{"func -> int ; / int 1 / call 1 / func int -> int ;", "", "", 6, api.ErrStack},
		// by a way that is not always gone
		{"func bool -> int ; / get 0 / if / int 1 / end", "true", "1", 4, api.OK},
		{"func bool -> int ; / get 0 / if / int 1 / end", "false", "", 2, api.ErrStack},
		{"func bool -> int ; / get 0 / if / int 1 / else / true / end", "true", "1", 4, api.OK},
		{"func bool -> int ; / get 0 / if / int 1 / else / true / end", "false", "", 4, api.ErrType},
		{"func -> int int int ; / loop 3 / int 1 / end", "", "1 1 1", 8, api.OK},
		{"func -> int int int ; / loop 4 / int 1 / end", "", "", 10, api.ErrStack},
	})
}

func TestP1202SetOtherType(t *testing.T) {
	for slot := api.Int; slot <= api.Bool; slot++ {
		for kind := api.Int; kind <= api.Bool; kind++ {
			for _, param := range []bool{true, false} {
				s := on(api.Instr{Op: op.Set}, nil, example(kind))
				var args []api.Value
				if param {
					s.Funcs[0].Params, args = []int{slot}, []api.Value{example(slot)}
				} else {
					s.Funcs[0].Locals = []int{slot}
				}
				e := api.OK
				if slot != kind {
					e = api.ErrType
				}
				wantResult(t, s, args, store.New(), slow.Result{Gas: 2, E: e})
			}
		}
	}
	wantRows(t, store.New(), []row{
		{"func int -> ; bytes bool / true / set 2 / int 1 / set 1", "1", "", 4, api.ErrType},
		{"func -> ; int / set 0", "", "", 1, api.ErrStack},
	})
}

// TestP1202Room: of a full store, with the transaction's own changes.
func TestP1202Room(t *testing.T) {
	full := store.New()
	for i := range api.MaxKeys {
		full.Put(fmt.Sprintf("key%03d", i), "v")
	}
	old := value.Print(value.Text("key007"))
	k := "const x'6b' / const " + old + " / "
	wantRows(t, full, []row{
		{k + "func -> ; / const 0 / const 0 / save", "", "", 32, api.ErrRoom},
		{k + "func -> ; / const 1 / const 0 / save", "", "", 32, api.OK},
		{k + "func -> ; / const 1 / wipe / const 0 / const 0 / save", "", "", 58, api.OK},
		{k + "func -> ; / const 0 / wipe / const 0 / const 0 / save", "", "", 58, api.ErrRoom},
		{k + "func -> ; / const 1 / wipe / const 0 / const 0 / save / const 1 / const 1 / save", "", "", 90, api.ErrRoom},
		{k + "func -> bytes bool ; / const 0 / load", "", "x'' false", 21, api.OK},
	})
	// a key that is too long, ahead of there being no room
	long := value.Text(strings.Repeat("k", api.MaxKey+1))
	s := parse("func bytes -> ; / get 0 / get 0 / save")
	wantResult(t, s, []api.Value{long}, full, slow.Result{Gas: 32, E: api.ErrLong})
	full.Delete("key007")
	wantRows(t, full, []row{
		{"const " + old + " / func bytes -> ; / get 0 / get 0 / save", "x'6b'", "", 32, api.OK},
		{"const " + old + " / func bytes -> ; / get 0 / get 0 / save / const 0 / get 0 / save", "x'6b'", "", 64, api.ErrRoom},
	})
}
