package slow_test

import (
	"bytes"
	"math/rand"
	"slices"
	"testing"

	"weighhouse/api"
	"weighhouse/asm"
	"weighhouse/slow"
	"weighhouse/store"
	"weighhouse/value"
	"weighhouse/verify"
)

// mayEnd are the errors that a verified script may end with.
var mayEnd = []api.Errno{api.OK, api.ErrZero, api.ErrLong, api.ErrIndex, api.ErrAbort, api.ErrEmit, api.ErrRoom}

// wantVerified holds a run of a verified script to P1203, with limits from its
// bound on, which change nothing.
func wantVerified(t *testing.T, s api.Script, args []api.Value, on *store.Store, gas int) slow.Result {
	t.Helper()
	first := slow.Run(s, args, store.Begin(on), gas)
	if !slices.Contains(mayEnd, first.E) || first.Gas > gas || first.Gas < 0 {
		t.Errorf("%q of %v, bound %d: %+v", asm.Print(s), args, gas, first)
	}
	if first.E == api.OK && !value.Fits(first.Out, s.Funcs[0].Results) {
		t.Errorf("%q of %v: Out %v, Results %v", asm.Print(s), args, first.Out, s.Funcs[0].Results)
	}
	if first.E != api.OK && (len(first.Out) != 0 || len(first.Emits) != 0) {
		t.Errorf("%q of %v: %+v", asm.Print(s), args, first)
	}
	for _, limit := range []int{min(gas+1, api.MaxGas), api.MaxGas} {
		if r := slow.Run(s, args, store.Begin(on), limit); !same(r, first) {
			t.Errorf("%q of %v, limit %d: %+v, and with its bound %+v", asm.Print(s), args, limit, r, first)
		}
	}
	return first
}

// TestP1203Verified: scripts that verify takes, some of which were changed by
// chance, with arguments and stores of all kinds.
func TestP1203Verified(t *testing.T) {
	r := rand.New(rand.NewSource(1203))
	n, whole := tally{}, 0
	for range 6000 {
		s := written(r)
		if r.Intn(3) == 0 {
			s = spoilt(r, s)
		}
		report, e := verify.Of(s)
		if e != api.OK || report.Gas > 20000 {
			continue
		}
		x := wantVerified(t, s, someArgs(r, s), someStore(r), report.Gas)
		if n[x.E]++; t.Failed() {
			return
		}
		if x.Gas == report.Gas {
			whole++
		}
	}
	n.wantSome(t, 30, mayEnd...)
	if whole < 100 {
		t.Error("only", whole, "runs have taken their whole bound")
	}
}

// TestP1203WholeBound: without ifs and leaves all of the bound is taken.
func TestP1203WholeBound(t *testing.T) {
	for _, text := range []string{
		"func -> int ; / int 6 / int 7 / mul",
		"func -> ; / loop 3 / int 1 / drop / end",
		"func -> int ; / int 0 / loop 64 / loop 64 / int 1 / add / end / end",
		"const x'6b' / func -> ; / loop 5 / call 1 / const 0 / emit / end / func -> ; / const 0 / const 0 / save / const 0 / wipe",
		"func -> int ; / int 1" + nest(api.MaxGas-1),
	} {
		s := parse(text)
		report, e := verify.Of(s)
		if e != api.OK {
			t.Fatal(text, e)
		}
		if r := wantVerified(t, s, nil, store.New(), report.Gas); r.E != api.OK || r.Gas != report.Gas {
			t.Errorf("%q: %+v, bound %d", text, r, report.Gas)
		}
	}
}

// TestP1203StacksAndFrames: what is at the edge of being verified does not fail
// by its stacks and calls.
func TestP1203StacksAndFrames(t *testing.T) {
	for _, text := range []string{
		"func -> ;" + lines(api.MaxStack, "true") + lines(api.MaxStack, "drop"),
		"func -> ;" + lines(api.MaxStack-1, "true") + " / call 1" + lines(api.MaxStack, "drop") + " / func -> bool ;" + lines(api.MaxStack, "true") + lines(api.MaxStack-1, "both"),
		chain(api.MaxFuncs, " / true / drop"),
		"func -> ;" + lines(8, "true / if") + lines(8, "end"),
	} {
		s := parse(text)
		report, e := verify.Of(s)
		if e != api.OK {
			t.Fatal(text, e)
		}
		if r := wantVerified(t, s, nil, store.New(), report.Gas); r.E != api.OK {
			t.Errorf("%q: %+v", text, r)
		}
	}
}

// TestP1204Again: the same run on stores that are the same, put together in
// another order or read out of bytes, comes to the same.
func TestP1204Again(t *testing.T) {
	r := rand.New(rand.NewSource(1204))
	changed, ended := 0, tally{}
	for range 1500 {
		s := written(r)
		if r.Intn(3) == 0 {
			s = spoilt(r, s)
		}
		on, args, limit := someStore(r), someArgs(r, s), r.Intn(4000)
		read, _ := store.Read(on.Bytes())
		turned := store.New()
		for _, p := range slices.Backward(on.Scan("", "", 0)) {
			turned.Put(p.Key, p.Value)
		}
		x := store.Begin(on)
		first := slow.Run(s, args, x, limit)
		ended[first.E]++
		changes := x.Changes()
		if len(changes) > 0 {
			changed++
		}
		for _, other := range []*store.Store{on, on.Clone(), read, turned} {
			y := store.Begin(other)
			if again := slow.Run(s, args, y, limit); !same(first, again) || !slices.Equal(y.Changes(), changes) || !slices.Equal(shown(y), shown(x)) {
				t.Fatalf("%q of %v: %+v, and again %+v", asm.Print(s), args, first, again)
			}
			if other != on {
				y.Commit()
			}
		}
		if x.Commit(); !bytes.Equal(on.Bytes(), read.Bytes()) || !bytes.Equal(on.Bytes(), turned.Bytes()) {
			t.Fatalf("%q of %v: other stores behind Commit", asm.Print(s), args)
		}
	}
	if changed < 200 {
		t.Error("only", changed, "runs have changed something")
	}
	ended.wantSome(t, 20, api.OK, api.ErrGas, api.ErrAbort, api.ErrIndex)
}
