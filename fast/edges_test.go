package fast_test

import (
	"fmt"
	"slices"
	"strings"
	"testing"

	"weighhouse/api"
	"weighhouse/code"
	"weighhouse/fast"
	"weighhouse/op"
	"weighhouse/slow"
	"weighhouse/store"
	"weighhouse/value"
	"weighhouse/verify"
)

// consts stands ahead of all scripts with faults: a key that is not there, one
// that is too long, one that is there, a long value, and three bytes.
var consts = "const x'6b' / const x'" + strings.Repeat("6b", api.MaxKey+1) + "' / const " + value.Print(value.Text("key007")) +
	" / const x'" + strings.Repeat("76", api.MaxValue) + "' / const x'616263' / "

// fault is what goes wrong, with e, and leaves nothing on the stack; near it is
// what does not, though it is much like it.
type fault struct {
	e          api.Errno
	text, near string
}

// faults are all that may go wrong in a verified script, on a full store.
var faults = []fault{
	{api.ErrAbort, "abort", "true / drop"},
	{api.ErrZero, "int 7 / int 0 / div / drop", "int 7 / int -1 / div / drop"},
	{api.ErrZero, "int 7 / int 0 / rem / drop", "int 7 / int -1 / rem / drop"},
	{api.ErrLong, "const 3 / const 0 / join / drop", "const 3 / int 0 / int 255 / cut / const 0 / join / drop"},
	{api.ErrLong, "int 1 / pack / const 0 / join / unpack / drop", "int 1 / pack / unpack / drop"},
	{api.ErrLong, "const 1 / const 0 / save", "const 2 / const 0 / save"},
	{api.ErrLong, "const 1 / wipe", "const 0 / wipe"},
	{api.ErrIndex, "const 4 / int -1 / int 2 / cut / drop", "const 4 / int 0 / int 2 / cut / drop"},
	{api.ErrIndex, "const 4 / int 2 / int 1 / cut / drop", "const 4 / int 2 / int 2 / cut / drop"},
	{api.ErrIndex, "const 4 / int 1 / int 4 / cut / drop", "const 4 / int 1 / int 3 / cut / drop"},
	{api.ErrIndex, "const 4 / int -1 / at / drop", "const 4 / int 0 / at / drop"},
	{api.ErrIndex, "const 4 / int 3 / at / drop", "const 4 / int 2 / at / drop"},
	{api.ErrEmit, "loop 17 / const 0 / emit / end", "const 0 / emit"},
	{api.ErrRoom, "const 0 / const 0 / save", "const 2 / wipe / const 0 / const 0 / save / const 0 / wipe / const 2 / const 0 / save"},
}

// ways are scripts in which %s is done, the first time round or a later one.
var ways = map[string]string{
	"alone":                  "func -> ; / %s",
	"first":                  "func -> int ; int / %s / int 5 / set 0 / get 0",
	"in the midst":           "func -> int ; int / int 5 / set 0 / int 3 / get 0 / %s / add",
	"last":                   "func -> int ; int / int 5 / set 0 / get 0 / const 2 / get 0 / pack / save / %s",
	"in a branch":            "func -> int ; / int 1 / true / if / int 2 / add / %s / int 3 / add / else / neg / end / int 2 / mul",
	"in the other branch":    "func -> int ; / int 1 / false / if / int 2 / add / else / int 3 / add / %s / end / int 2 / mul",
	"in a branch alone":      "func -> int ; / int 1 / true / if / %s / end / false / if / abort / end",
	"in a loop":              "func -> int ; / int 0 / loop 3 / int 1 / add / %s / end",
	"in a later round":       "func -> int ; / int 0 / loop 9 / int 1 / add / dup / int 4 / eq / if / %s / end / end",
	"in the last round":      "func -> int ; / int 0 / loop 64 / int 1 / add / dup / int 64 / eq / if / %s / end / end",
	"in loops within loops":  "func -> int ; / int 0 / loop 3 / loop 4 / int 1 / add / dup / int 7 / eq / if / %s / end / end / end",
	"behind a leave":         "func -> int ; / int 0 / loop 5 / int 1 / add / true / leave / end / %s",
	"called":                 "func -> int ; / int 1 / call 1 / int 2 / add / func -> ; / %s",
	"called in the midst":    "func -> int ; / int 1 / call 1 / func int -> int ; int / int 8 / set 1 / get 0 / %s / get 1 / add",
	"called by one called":   "func -> ; / call 2 / call 1 / func -> ; / int 6 / call 3 / func -> ; / true / drop / func int -> ; / get 0 / int 6 / eq / if / %s / end",
	"called in a round":      "func -> ; int / loop 6 / get 0 / int 1 / add / dup / set 0 / call 1 / end / func int -> ; / get 0 / int 3 / eq / if / %s / end",
	"at the second call":     "func -> ; / false / call 1 / true / call 1 / func bool -> ; / get 0 / if / %s / end",
	"in a round of a callee": "func -> ; / loop 2 / call 1 / end / func -> ; int / loop 4 / get 0 / int 1 / add / dup / set 0 / int 3 / eq / if / %s / end / end",
}

// TestP1303Faults: wherever it goes wrong, the gas is slow's, which is more than
// that of what stands ahead of it; and what is much like it goes well there.
func TestP1303Faults(t *testing.T) {
	on := full(api.MaxKeys)
	for name, way := range ways {
		for _, f := range faults {
			s := parse(consts + fmt.Sprintf(way, f.text))
			r := wantSlow(t, s, nil, on)
			if r.E != f.e || r.Gas == 0 || len(r.Out) != 0 || len(r.Emits) != 0 {
				t.Errorf("%s: %s: %+v, want %d", name, f.text, r, f.e)
			}
			if r := wantSlow(t, parse(consts+fmt.Sprintf(way, f.near)), nil, on); r.E != api.OK {
				t.Errorf("%s: %s: %+v", name, f.near, r)
			}
		}
	}
}

// TestP1303FaultsGas: by hand, at some of these places.
func TestP1303FaultsGas(t *testing.T) {
	wantRows(t, store.New(), []row{
		{"func -> ; / abort", "", "", 1, api.ErrAbort},
		{"func int int -> int ; / get 0 / get 1 / div", "1 0", "", 6, api.ErrZero},
		{"func int int -> int ; / get 0 / get 1 / div", "7 -2", "-3", 6, api.OK},
		{"func int int -> int ; / get 0 / get 1 / rem / neg", "1 0", "", 6, api.ErrZero},
		{"func -> ; / loop 3 / call 1 / abort / end / func -> ; / true / drop", "", "", 2 + 5 + 2 + 1, api.ErrAbort},
		{"func int -> int ; / int 0 / loop 9 / int 1 / add / dup / get 0 / eq / if / int 1 / int 0 / div / drop / end / end", "4",
			"", 1 + 2 + 3*(6+1) + 6 + 6, api.ErrZero},
		{"func bool -> ; / get 0 / if / abort / end", "false", "", 2, api.OK},
		{"func bool -> ; / get 0 / if / abort / end", "true", "", 3, api.ErrAbort},
	})
}

// TestP1303StepsAheadOfAFault: what they did to the transaction is done, as
// slow does it, and no more; its store stays.
func TestP1303StepsAheadOfAFault(t *testing.T) {
	for _, f := range faults {
		on := full(api.MaxKeys)
		was := on.Hash()
		s := parse(consts + "func -> ; / const 2 / const 4 / save / call 1 / const 2 / wipe / func -> ; / " + f.text)
		x := store.Begin(on)
		if r := compiled(t, s).Run(nil, x); r.E != f.e {
			t.Errorf("%s: %+v, want %d", f.text, r, f.e)
		}
		if l := x.Changes(); !slices.Equal(l, []store.Pair{{Key: "key007", Value: "abc"}}) {
			t.Errorf("%s: changes %q", f.text, l)
		}
		if on.Hash() != was {
			t.Errorf("%s: the store has changed", f.text)
		}
	}
}

// TestP1303Room: of a full store, with the transaction's own changes.
func TestP1303Room(t *testing.T) {
	on := full(api.MaxKeys)
	k := "const x'6b' / const " + value.Print(value.Text("key007")) + " / "
	wantRows(t, on, []row{
		{k + "func -> ; / const 0 / const 0 / save", "", "", 32, api.ErrRoom},
		{k + "func -> ; / const 1 / const 0 / save", "", "", 32, api.OK},
		{k + "func -> ; / const 1 / wipe / const 0 / const 0 / save", "", "", 58, api.OK},
		{k + "func -> ; / const 0 / wipe / const 0 / const 0 / save", "", "", 58, api.ErrRoom},
		{k + "func -> ; / const 1 / wipe / const 0 / const 0 / save / const 1 / const 1 / save", "", "", 90, api.ErrRoom},
	})
	s := parse("func bytes -> ; / get 0 / get 0 / save")
	long := []api.Value{value.Text(strings.Repeat("k", api.MaxKey+1))}
	if r := wantSlow(t, s, long, on); !same(r, slow.Result{Gas: 32, E: api.ErrLong}) {
		t.Errorf("a long key on a full store: %+v", r)
	}
}

// deepest answers a script of so many functions, each of which calls the next
// one with slots and a stack as great as may be, all with values of their own,
// and works into its results what all of them are then.
func deepest(funcs int) api.Script {
	ints := slices.Repeat([]int{api.Int}, api.MaxTypes)
	var s api.Script
	for f := range funcs {
		var c []api.Instr
		for slot := api.MaxTypes; slot < api.MaxLocals; slot++ {
			c = append(c, api.Instr{Op: op.PushInt, A: 1000*f + 7*slot}, api.Instr{Op: op.Set, A: slot})
		}
		for i := range api.MaxStack {
			c = append(c, api.Instr{Op: op.PushInt, A: 100*f + i*i})
		}
		if f < funcs-1 {
			c = append(c, api.Instr{Op: op.Call, A: f + 1})
		}
		for i := range api.MaxStack - 1 {
			c = append(c, api.Instr{Op: []int{op.Sub, op.Mul, op.Add}[i%3]})
		}
		for slot := range api.MaxLocals {
			c = append(c, api.Instr{Op: op.Get, A: slot}, api.Instr{Op: []int{op.Xor, op.Sub, op.Mul}[slot%3]})
		}
		for i := range api.MaxTypes - 1 {
			c = append(c, api.Instr{Op: op.Dup}, api.Instr{Op: op.Get, A: i}, api.Instr{Op: op.Add})
		}
		s.Funcs = append(s.Funcs, api.Func{Params: ints, Results: ints, Locals: ints, Code: c})
	}
	return s
}

// TestP1303Deepest: frames that fill all the room that may be needed.
func TestP1303Deepest(t *testing.T) {
	args := values("1 -2 3 -4 5 -6 7 -8")
	for n := 1; n <= api.MaxFuncs; n++ {
		s := deepest(n)
		report, e := verify.Of(s)
		if e != api.OK || report.Rooms[0] != n*(api.MaxLocals+api.MaxStack) {
			t.Fatal(n, e, report.Rooms)
		}
		if r := wantSlow(t, s, args, store.New()); r.E != api.OK || len(r.Out) != api.MaxTypes || r.Gas != report.Gas {
			t.Errorf("%d functions: %+v, bound %d", n, r, report.Gas)
		}
	}
	// with bytes and truths, by loops within calls
	wide := "func -> bytes ; bytes bytes bool int" + lines(api.MaxStack-1, "const 0") + " / call 1" + lines(api.MaxStack-1, "join")
	deep := " / func -> bytes ; bytes bool bytes / int 7 / one / set 0 / loop 3 / get 0 / get 0 / join / set 0 / end / get 2 / get 0" + lines(api.MaxStack-2, "const 1") + lines(api.MaxStack-1, "join")
	if r := wantSlow(t, parse("const x'61' / const x'62' / "+wide+deep), nil, store.New()); r.E != api.OK || len(r.Out) != 1 ||
		r.Out[0].B != strings.Repeat("a", 31)+strings.Repeat("\a", 8)+strings.Repeat("b", 30) {
		t.Errorf("%+v", r)
	}
}

// TestP1303OtherRooms: functions of all kinds of rooms, called one behind the
// other at the same place of the room.
func TestP1303OtherRooms(t *testing.T) {
	heads, calls := "", ""
	for f := 1; f < api.MaxFuncs; f++ {
		calls += fmt.Sprintf(" / int %d / call %d / add", f, f)
		heads += " / func int -> int ;" + strings.Repeat(" int", f) + " / get 0" + lines(f, "int 3") + lines(f, "mul") +
			fmt.Sprintf(" / set %d / get %d / get %d / add", f, f, f-1)
	}
	twice := strings.Repeat(calls, 2)
	if r := wantSlow(t, parse("func -> int ; / int 0"+twice+heads), nil, store.New()); r.E != api.OK {
		t.Errorf("%+v", r)
	}
}

// nest answers a text of loops within loops that takes just so much gas: as many
// rounds as can be, then neg by neg.
func nest(gas int) string {
	text := ""
	for _, depth := range []int{3, 2, 1} {
		open, fixed, rounds := lines(depth, "loop 64"), 2, 1
		for i := range depth {
			rounds *= 64
			if i > 0 {
				fixed += 3 * rounds / 64
			}
		}
		if inner := (gas - fixed) / rounds; inner > 0 {
			text += open + lines(inner-1, "neg") + lines(depth, "end")
			gas -= fixed + inner*rounds
		}
	}
	return text + lines(gas, "neg")
}

// TestP1303MaxGas: programs that take their whole bound, up to MaxGas; one more
// is not verified.
func TestP1303MaxGas(t *testing.T) {
	for _, n := range []int{1, 100, 5000, 300000, api.MaxGas - 1, api.MaxGas} {
		s := parse("func -> int ; / int 1" + nest(n-1))
		if r := wantSlow(t, s, nil, store.New()); r.E != api.OK || r.Gas != n || compiled(t, s).Bound() != n {
			t.Errorf("%d: %+v", n, r)
		}
	}
	if p, e := fast.Of(parse("func -> int ; / int 1" + nest(api.MaxGas))); p != nil || e != api.ErrGas {
		t.Error("MaxGas and one more:", p, e)
	}
}

// TestP1303LongestRow: all functions as long as may be, each of which leads to
// its last instructions.
func TestP1303LongestRow(t *testing.T) {
	var s api.Script
	for f := range api.MaxFuncs {
		c := []api.Instr{{Op: op.Get}, {Op: op.If}}
		for len(c) < api.MaxCode-4 {
			c = append(c, api.Instr{Op: op.PushInt, A: f}, api.Instr{Op: op.Drop})
		}
		c = append(c, api.Instr{Op: op.End}, api.Instr{Op: op.Get})
		if f < api.MaxFuncs-1 {
			c = append(c, api.Instr{Op: op.Not}, api.Instr{Op: op.Call, A: f + 1})
		} else {
			c = append(c, api.Instr{Op: op.Not}, api.Instr{Op: op.Not})
		}
		s.Funcs = append(s.Funcs, api.Func{Params: []int{api.Bool}, Results: []int{api.Bool}, Code: c})
	}
	if len(s.Funcs[0].Code) != api.MaxCode || !code.Right(s) {
		t.Fatal("not as long as may be:", len(s.Funcs[0].Code))
	}
	for _, yes := range []bool{true, false} {
		if r := wantSlow(t, s, []api.Value{value.Truth(yes)}, store.New()); r.E != api.OK || !slices.Equal(r.Out, []api.Value{value.Truth(!yes)}) {
			t.Errorf("%v: %+v", yes, r)
		}
	}
}
