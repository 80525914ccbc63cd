package slow_test

import (
	"maps"
	"math/rand"
	"slices"
	"testing"

	"weighhouse/api"
	"weighhouse/asm"
	"weighhouse/code"
	"weighhouse/op"
	"weighhouse/shape"
	"weighhouse/slow"
	"weighhouse/store"
	"weighhouse/value"
)

// part is an instruction; of one that opens a block, what stands within it, and
// of an if with an else what stands behind that.
type part struct {
	x           api.Instr
	body, other []part
	split       bool
}

// parts answers those up to an else or end that closes them, and what is left.
func parts(c []api.Instr) (l []part, rest []api.Instr) {
	for len(c) > 0 && c[0].Op != op.Else && c[0].Op != op.End {
		p := part{x: c[0]}
		c = c[1:]
		if p.x.Op == op.If || p.x.Op == op.Loops {
			p.body, c = parts(c)
			if p.split = c[0].Op == op.Else; p.split {
				p.other, c = parts(c[1:])
			}
			c = c[1:]
		}
		l = append(l, p)
	}
	return l, c
}

// hand is a run by the chapter's words: calls are calls within calls, blocks are
// blocks within blocks, and a store is a map.
type hand struct {
	s                 api.Script
	keys              map[string]string
	gas, limit, depth int
	emits             []string
}

// place is a function that is being run by hand.
type place struct {
	slots, stack []api.Value
}

func (p *place) take(kinds ...int) ([]api.Value, api.Errno) {
	l := make([]api.Value, len(kinds))
	for i := len(kinds) - 1; i >= 0; i-- {
		n := len(p.stack)
		if n == 0 {
			return nil, api.ErrStack
		}
		if l[i] = p.stack[n-1]; kinds[i] != 0 && kinds[i] != l[i].Type {
			return nil, api.ErrType
		}
		p.stack = p.stack[:n-1]
	}
	return l, api.OK
}

func (p *place) put(l ...api.Value) api.Errno {
	p.stack = append(p.stack, l...)
	return api.OK
}

// call runs a function by hand.
func (h *hand) call(f int, args []api.Value) ([]api.Value, api.Errno) {
	own := h.s.Funcs[f]
	p := &place{slots: slices.Clone(args)}
	for _, kind := range own.Locals {
		p.slots = append(p.slots, api.Value{Type: kind})
	}
	h.depth++
	defer func() { h.depth-- }()
	l, _ := parts(own.Code)
	if _, e := h.all(p, l); e != api.OK {
		return nil, e
	}
	if len(p.stack) != len(own.Results) {
		return nil, api.ErrStack
	}
	for i, v := range p.stack {
		if v.Type != own.Results[i] {
			return nil, api.ErrType
		}
	}
	return p.stack, api.OK
}

// all does parts one behind the other, till a loop is left.
func (h *hand) all(p *place, l []part) (left bool, e api.Errno) {
	for _, x := range l {
		if left, e = h.one(p, x); left || e != api.OK {
			return left, e
		}
	}
	return false, api.OK
}

func (h *hand) one(p *place, x part) (left bool, e api.Errno) {
	in, e := h.step(p, x.x)
	if e != api.OK {
		return false, e
	}
	switch x.x.Op {
	case op.If:
		return h.branch(p, x, in[0].N == 1)
	case op.Leave:
		return in[0].N == 1, api.OK
	case op.Loops:
		for range x.x.A {
			left, e := h.all(p, x.body)
			if left || e != api.OK {
				return false, e
			}
			if _, e = h.step(p, api.Instr{Op: op.End}); e != api.OK {
				return false, e
			}
		}
	case op.Call:
		out, e := h.call(x.x.A, in)
		p.put(out...)
		return false, e
	}
	return false, api.OK
}

// branch does one side of an if, and the else or end that it comes to.
func (h *hand) branch(p *place, x part, yes bool) (left bool, e api.Errno) {
	body, last := x.body, op.End
	switch {
	case !yes && !x.split:
		return false, api.OK
	case !yes:
		body = x.other
	case x.split:
		last = op.Else
	}
	if left, e = h.all(p, body); left || e != api.OK {
		return left, e
	}
	_, e = h.step(p, api.Instr{Op: last})
	return false, e
}

// step is one instruction without what its block or its callee does; it answers
// what was taken.
func (h *hand) step(p *place, x api.Instr) (in []api.Value, e api.Errno) {
	if h.gas += cost(x.Op); h.gas > h.limit {
		h.gas = h.limit
		return nil, api.ErrGas
	}
	kinds := op.In(x.Op)
	if x.Op == op.Call {
		if h.depth == api.MaxFuncs {
			return nil, api.ErrCall
		}
		kinds = h.s.Funcs[x.A].Params
	}
	if in, e = p.take(kinds...); e == api.OK {
		e = h.do(p, x, in)
	}
	if e == api.OK && len(p.stack) > api.MaxStack {
		e = api.ErrStack
	}
	return in, e
}

func (h *hand) do(p *place, x api.Instr, in []api.Value) api.Errno {
	if op.Plain(x.Op) {
		out, e := op.Apply(x.Op, in...)
		p.put(out...)
		return e
	}
	switch op.Name(x.Op) {
	case "int":
		return p.put(api.Value{Type: api.Int, N: x.A})
	case "const":
		return p.put(api.Value{Type: api.Bytes, B: h.s.Consts[x.A]})
	case "dup":
		return p.put(in[0], in[0])
	case "swap":
		return p.put(in[1], in[0])
	case "over":
		return p.put(in[0], in[1], in[0])
	case "get":
		return p.put(p.slots[x.A])
	case "set":
		if p.slots[x.A].Type != in[0].Type {
			return api.ErrType
		}
		p.slots[x.A] = in[0]
	case "emit":
		if len(h.emits) == api.MaxEmits {
			return api.ErrEmit
		}
		h.emits = append(h.emits, in[0].B)
	case "abort":
		return api.ErrAbort
	case "load", "has", "next", "save", "wipe":
		return h.reach(p, op.Name(x.Op), in)
	}
	return api.OK
}

func (h *hand) reach(p *place, name string, in []api.Value) api.Errno {
	key := in[0].B
	v, ok := h.keys[key]
	switch name {
	case "load":
		return p.put(value.Text(v), value.Truth(ok))
	case "has":
		return p.put(value.Truth(ok))
	case "next":
		above, found := "", false
		for k := range h.keys {
			if k > key && (!found || k < above) {
				above, found = k, true
			}
		}
		return p.put(value.Text(above), value.Truth(found))
	}
	if len(key) > api.MaxKey {
		return api.ErrLong
	}
	if name == "wipe" {
		delete(h.keys, key)
		return api.OK
	}
	if !ok && len(h.keys) == api.MaxKeys {
		return api.ErrRoom
	}
	h.keys[key] = in[1].B
	return api.OK
}

// byHand runs a script that may be, of good shape, with arguments that fit; it
// answers also what the store shows with the changes done.
func byHand(s api.Script, args []api.Value, keys map[string]string, limit int) (slow.Result, []string) {
	h := &hand{s: s, keys: maps.Clone(keys), limit: limit}
	out, e := h.call(0, args)
	var l []string
	for _, k := range slices.Sorted(maps.Keys(h.keys)) {
		l = append(l, k, h.keys[k])
	}
	if e != api.OK {
		return slow.Result{Gas: h.gas, E: e}, l
	}
	return slow.Result{Out: out, Emits: h.emits, Gas: h.gas}, l
}

// keysOf answers what a store holds.
func keysOf(on *store.Store) map[string]string {
	m := map[string]string{}
	for _, p := range on.Scan("", "", 0) {
		m[p.Key] = p.Value
	}
	return m
}

// wantByHand holds a run to what it is by hand, and answers its result.
func wantByHand(t *testing.T, s api.Script, args []api.Value, on *store.Store, limit int) slow.Result {
	t.Helper()
	x, hash := store.Begin(on), on.Hash()
	got := slow.Run(s, args, x, limit)
	want, show := byHand(s, args, keysOf(on), limit)
	if !same(got, want) {
		t.Errorf("%q of %v, limit %d: %+v, want %+v", asm.Print(s), args, limit, got, want)
	}
	if l := shown(x); !slices.Equal(l, show) {
		t.Errorf("%q of %v, limit %d: the transaction shows %q, want %q", asm.Print(s), args, limit, l, show)
	}
	if on.Hash() != hash {
		t.Errorf("%q of %v, limit %d: the store has changed", asm.Print(s), args, limit)
	}
	return got
}

// goodShape answers whether all functions of a script are of good shape.
func goodShape(s api.Script) bool {
	for _, f := range s.Funcs {
		if _, e := shape.Match(f.Code); e != api.OK {
			return false
		}
	}
	return true
}

// tally counts what runs came to.
type tally map[api.Errno]int

func (n tally) wantSome(t *testing.T, least int, l ...api.Errno) {
	t.Helper()
	for _, e := range l {
		if n[e] < least {
			t.Errorf("error %d came %d times: the scripts are too much alike", e, n[e])
		}
	}
}

// TestP1202AllShort: all functions of up to 5 instructions of some kinds.
func TestP1202AllShort(t *testing.T) {
	few := []api.Instr{{Op: op.PushInt, A: 1}, {Op: op.True}, {Op: op.Drop}, {Op: op.Add}, {Op: op.Over}, {Op: op.Call, A: 1},
		{Op: op.If}, {Op: op.Else}, {Op: op.End}, {Op: op.Loops, A: 2}, {Op: op.Leave}}
	n, on := tally{}, store.New()
	var grow func(c []api.Instr, open int)
	grow = func(c []api.Instr, open int) {
		s := api.Script{Funcs: []api.Func{{Results: []int{api.Int}, Code: c}, {Params: []int{api.Bool}, Results: []int{api.Int}, Code: []api.Instr{{Op: op.PushInt, A: 3}}}}}
		if goodShape(s) {
			n[wantByHand(t, s, nil, on, 100).E]++
		} else {
			n[api.ErrShape]++
			wantOnly(t, asm.Print(s), slow.Run(s, nil, store.Begin(on), 100), api.ErrShape)
		}
		if t.Failed() || open < 0 || len(c)+open > 5 || len(c) == 5 {
			return
		}
		for _, x := range few {
			more := open
			switch x.Op {
			case op.If, op.Loops:
				more++
			case op.End:
				more--
			}
			grow(append(slices.Clone(c), x), more)
		}
	}
	grow(nil, 0)
	n.wantSome(t, 50, api.OK, api.ErrShape, api.ErrStack, api.ErrType)
}

// TestP1202Written: longer scripts whose stacks fit, and such as are near them,
// on stores that are empty, nearly full or full, with limits of all kinds.
func TestP1202Written(t *testing.T) {
	r := rand.New(rand.NewSource(1202))
	n := tally{}
	for range 6000 {
		s := written(r)
		for range r.Intn(3) {
			s = spoilt(r, s)
		}
		if !code.Right(s) || !goodShape(s) {
			continue
		}
		limit := []int{r.Intn(60), r.Intn(3000), 5000}[r.Intn(3)]
		if n[wantByHand(t, s, someArgs(r, s), someStore(r), limit).E]++; t.Failed() {
			return
		}
	}
	n.wantSome(t, 30, api.OK, api.ErrStack, api.ErrType, api.ErrGas, api.ErrZero, api.ErrLong, api.ErrIndex, api.ErrAbort, api.ErrEmit, api.ErrRoom)
}

// TestP1202AnyInstructions: functions of instructions by chance, most of which
// go wrong soon.
func TestP1202AnyInstructions(t *testing.T) {
	r := rand.New(rand.NewSource(12))
	n, on := tally{}, stored(t, "a", "1", "b", "", "key001", "v")
	for range 20000 {
		s := api.Script{Consts: []string{"a", "k"}}
		for range 1 + r.Intn(3) {
			s.Funcs = append(s.Funcs, api.Func{Params: someTypes(r, 2), Results: someTypes(r, 2), Locals: someTypes(r, 3)})
		}
		for f := range s.Funcs {
			for range r.Intn(12) {
				if x, ok := someInstr(r, s, f); ok && (x.Op < op.If || x.Op == op.Call) {
					s.Funcs[f].Code = append(s.Funcs[f].Code, x)
				}
			}
		}
		if n[wantByHand(t, s, someArgs(r, s), on, 2000).E]++; t.Failed() {
			return
		}
	}
	n.wantSome(t, 20, api.OK, api.ErrStack, api.ErrType, api.ErrCall, api.ErrAbort)
}
