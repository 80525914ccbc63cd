package fast_test

import (
	"bytes"
	"math/rand"
	"slices"
	"sync"
	"testing"

	"weighhouse/api"
	"weighhouse/asm"
	"weighhouse/code"
	"weighhouse/fast"
	"weighhouse/slow"
	"weighhouse/store"
)

// job is a run that is done again and again: its program, and what it comes to.
type job struct {
	s       api.Script
	p       *fast.Program
	args    []api.Value
	on      *store.Store
	want    slow.Result
	changes []store.Pair
}

// someJobs answers programs, each with several arguments and stores.
func someJobs(t *testing.T, r *rand.Rand, programs int) (l []job) {
	for range programs {
		s, _ := verified(r)
		p := compiled(t, s)
		for range 4 {
			j := job{s: s, p: p, args: someArgs(r, s), on: someStore(r)}
			x := store.Begin(j.on)
			j.want = slow.Run(s, j.args, x, p.Bound())
			j.changes = x.Changes()
			l = append(l, j)
		}
	}
	return l
}

func (j job) do(t *testing.T) {
	x := store.Begin(j.on)
	if r := j.p.Run(j.args, x); !same(r, j.want) || !slices.Equal(x.Changes(), j.changes) {
		t.Errorf("%q of %v: %+v, want %+v", asm.Print(j.s), j.args, r, j.want)
	}
}

// TestP1304Again: runs of many programs, with other arguments and on other
// stores, one between the other in any order.
func TestP1304Again(t *testing.T) {
	r := rand.New(rand.NewSource(1304))
	jobs := someJobs(t, r, 500)
	n := tally{}
	for range 10000 {
		j := jobs[r.Intn(len(jobs))]
		n[j.want.E]++
		if j.do(t); t.Failed() {
			return
		}
	}
	n.wantSome(t, 20, mayEnd...)
	for _, j := range jobs {
		if !code.Same(j.p.Script(), j.s) || !slices.Equal(j.p.Params(), j.s.Funcs[0].Params) {
			t.Errorf("%q: the program has changed", asm.Print(j.s))
		}
	}
}

// TestP1304AtOnce: runs of the same programs at the same time, each on a store
// of its own.
func TestP1304AtOnce(t *testing.T) {
	jobs := someJobs(t, rand.New(rand.NewSource(4)), 40)
	var all sync.WaitGroup
	for worker := range 8 {
		all.Go(func() {
			r := rand.New(rand.NewSource(int64(worker)))
			for range 200 {
				j := jobs[r.Intn(len(jobs))]
				j.on = j.on.Clone()
				j.do(t)
			}
		})
	}
	all.Wait()
}

// TestP1304ByTheStore: runs one behind the other in one transaction, and with a
// Commit between, see what those ahead of them did, as slow's do.
func TestP1304ByTheStore(t *testing.T) {
	r := rand.New(rand.NewSource(134))
	changed := 0
	for range 1500 {
		s, _ := verified(r)
		p := compiled(t, s)
		on := someStore(r)
		other := on.Clone()
		x, y := store.Begin(on), store.Begin(other)
		for range 6 {
			args := someArgs(r, s)
			got, want := p.Run(args, x), slow.Run(s, args, y, p.Bound())
			if !same(got, want) || !slices.Equal(x.Changes(), y.Changes()) {
				t.Fatalf("%q of %v: %+v, want %+v", asm.Print(s), args, got, want)
			}
			changed += len(x.Changes())
			if r.Intn(2) == 0 {
				x.Commit()
				y.Commit()
			}
		}
		if !bytes.Equal(on.Bytes(), other.Bytes()) {
			t.Fatalf("%q: other stores", asm.Print(s))
		}
	}
	if changed < 300 {
		t.Error("only", changed, "changes")
	}
}

// TestP1304Counter: a program that counts in the store, and nowhere else.
func TestP1304Counter(t *testing.T) {
	p := compiled(t, parse("const x'6e' / func -> int ; int / const 0 / load / if / unpack / set 0 / else / drop / end / get 0 / int 1 / add / set 0 / const 0 / get 0 / pack / save / get 0"))
	on := store.New()
	for i := range 50 {
		x := store.Begin(on)
		for range 3 { // not committed: nothing of it stays
			if r := p.Run(nil, store.Begin(on)); r.E != api.OK || r.Out[0].N != i+1 {
				t.Fatalf("%d: %+v", i, r)
			}
		}
		if r := p.Run(nil, x); r.E != api.OK || r.Out[0].N != i+1 {
			t.Fatalf("%d: %+v", i, r)
		}
		x.Commit()
	}
}

// TestP1304BehindAnError: a run that goes wrong leaves no emits, rounds or values
// for the next one.
func TestP1304BehindAnError(t *testing.T) {
	s := parse("const x'6b' / func int -> int int ; int / int 5 / loop 3 / const 0 / emit / loop 4 / int 1 / get 0 / call 1 / drop / get 1 / int 1 / add / set 1 / end / end / get 1 / func int int -> int ; int / get 2 / get 0 / get 1 / div / set 2 / get 2 / add")
	p := compiled(t, s)
	for i := range 20 {
		if r := p.Run(values("0"), store.Begin(store.New())); r.E != api.ErrZero || len(r.Out)+len(r.Emits) != 0 {
			t.Fatalf("%d: %+v", i, r)
		}
		const called = 1 + 1 + 5 + (1 + 1 + 1 + 4 + 1 + 1 + 1)
		want := slow.Result{Out: values("5 12"), Emits: []string{"k", "k", "k"}, Gas: 3 + 3*(11+2+4*(called+6)+1) + 1}
		if r := p.Run(values("7"), store.Begin(store.New())); !same(r, want) {
			t.Fatalf("%d: %+v, want %+v", i, r, want)
		}
		if r := slow.Run(s, values("7"), store.Begin(store.New()), p.Bound()); !same(r, want) {
			t.Fatalf("slow: %+v, want %+v", r, want)
		}
	}
}
