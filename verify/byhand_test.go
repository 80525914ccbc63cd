package verify_test

import (
	"math/rand"
	"slices"
	"testing"

	"weighhouse/api"
	"weighhouse/asm"
	"weighhouse/bound"
	"weighhouse/calls"
	"weighhouse/code"
	"weighhouse/op"
	"weighhouse/types"
	"weighhouse/verify"
)

// piece is a part of a function that leaves the stack as it was: its bound and
// how high the stack goes are told as it is put together.
type piece struct {
	c         []api.Instr
	gas, high int
	calls     []int
}

// far is where gas is cut here: far above MaxGas, whatever comes to it.
const far = 1 << 40

// then answers the piece with another one behind it.
func (p piece) then(q piece) piece {
	return piece{slices.Concat(p.c, q.c), min(p.gas+q.gas, far), max(p.high, q.high), slices.Concat(p.calls, q.calls)}
}

// on answers the piece with instructions around it that cost so much, and let so
// many more stand below it, which stand there at some time.
func (p piece) on(ahead, behind []api.Instr, gas, below int) piece {
	return piece{slices.Concat(ahead, p.c, behind), min(p.gas+gas, far), p.high + below, p.calls}
}

// maker puts a script together, function by function, and tells what it needs.
type maker struct {
	r    *rand.Rand
	s    api.Script
	want needs
	gas  []int // the bounds of functions
	done []int // the functions that are made, and may be called
	f    int   // the one that is being made
}

func instrs(l ...api.Instr) []api.Instr { return l }

// push answers an instruction that puts a value of a type there.
func (m *maker) push(kind int) api.Instr {
	slots := code.Slots(m.s.Funcs[m.f])
	if at := m.r.Intn(len(slots) + 1); at < len(slots) && slots[at] == kind {
		return api.Instr{Op: op.Get, A: at}
	}
	switch kind {
	case api.Int:
		return api.Instr{Op: op.PushInt, A: m.r.Intn(100) - 50}
	case api.Bytes:
		return api.Instr{Op: op.PushConst, A: m.r.Intn(len(m.s.Consts))}
	}
	return api.Instr{Op: op.True + m.r.Intn(2)}
}

func (m *maker) pushAll(types []int) (c []api.Instr) {
	for _, kind := range types {
		c = append(c, m.push(kind))
	}
	return c
}

func (m *maker) kind() int { return 1 + m.r.Intn(3) }

// plain answers a small piece without blocks and calls.
func (m *maker) plain() piece {
	drop := api.Instr{Op: op.Drop}
	a, b := m.push(api.Int), m.push(api.Int)
	x, y := m.push(api.Bytes), m.push(api.Bytes)
	any := m.push(m.kind())
	slots := code.Slots(m.s.Funcs[m.f])
	l := []piece{
		{instrs(any, drop), 2, 1, nil},
		{instrs(any, api.Instr{Op: op.Dup}, drop, drop), 4, 2, nil},
		{instrs(a, b, api.Instr{Op: op.Div}, drop), 7, 2, nil},
		{instrs(a, any, api.Instr{Op: op.Over}, drop, api.Instr{Op: op.Swap}, drop, drop), 7, 3, nil},
		{instrs(x, a, b, api.Instr{Op: op.Cut}, api.Instr{Op: op.Emit}), 19, 3, nil},
		{instrs(x, y, api.Instr{Op: op.Save}), 32, 2, nil},
		{instrs(x, api.Instr{Op: op.Load}, drop, drop), 23, 2, nil},
		{instrs(api.Instr{Op: op.Abort}), 1, 0, nil},
	}
	if len(slots) > 0 {
		at := m.r.Intn(len(slots))
		l = append(l, piece{instrs(m.push(slots[at]), api.Instr{Op: op.Set, A: at}), 2, 1, nil})
	}
	return l[m.r.Intn(len(l))]
}

// call answers a piece that calls a function that is made; a plain one, if there
// is none.
func (m *maker) call() piece {
	if len(m.done) == 0 {
		return m.plain()
	}
	f := m.done[m.r.Intn(len(m.done))]
	in, out := m.s.Funcs[f].Params, m.s.Funcs[f].Results
	c := append(m.pushAll(in), api.Instr{Op: op.Call, A: f})
	c = append(c, slices.Repeat([]api.Instr{{Op: op.Drop}}, len(out))...)
	return piece{c, min(len(in)+5+m.gas[f]+len(out), far), max(len(in), len(out)), []int{f}}
}

// grow answers some pieces behind one another, with so many blocks within one
// another at most.
func (m *maker) grow(blocks int) (p piece) {
	for range m.r.Intn(4) {
		p = p.then(m.one(blocks))
	}
	return p
}

func (m *maker) one(blocks int) piece {
	truth := m.push(api.Bool)
	switch m.r.Intn(9) {
	case 0, 1:
		return m.plain()
	case 2, 3:
		return m.call()
	case 4: // with one more below
		return m.grow(blocks).on(instrs(m.push(m.kind())), instrs(api.Instr{Op: op.Drop}), 2, 1)
	}
	if blocks == 0 {
		return m.plain()
	}
	ahead, end := instrs(truth, api.Instr{Op: op.If}), instrs(api.Instr{Op: op.End})
	p := m.grow(blocks - 1)
	switch m.r.Intn(3) {
	case 0:
		p = p.on(ahead, end, 3, 0)
		p.high = max(p.high, 1)
	case 1:
		p = either(ahead, p, m.grow(blocks-1))
	default:
		p = m.loop(p)
	}
	return p
}

// either answers an if of two pieces, of which the dearer one counts.
func either(ahead []api.Instr, yes, no piece) piece {
	both := yes.then(no)
	both.c = slices.Concat(ahead, yes.c, instrs(api.Instr{Op: op.Else}), no.c, instrs(api.Instr{Op: op.End}))
	both.gas, both.high = max(yes.gas, no.gas)+3, max(both.high, 1)
	return both
}

// loop answers a piece that goes round, and is left now and then.
func (m *maker) loop(p piece) piece {
	if m.r.Intn(2) == 0 {
		p = p.then(piece{instrs(m.push(api.Bool), api.Instr{Op: op.Leave}), 2, 1, nil})
	}
	rounds := []int{1, 2, 7, api.MaxLoop, api.MaxLoop, api.MaxLoop}[m.r.Intn(6)]
	p.c = slices.Concat(instrs(api.Instr{Op: op.Loops, A: rounds}), p.c, instrs(api.Instr{Op: op.End}))
	p.gas = min(2+rounds*(p.gas+1), far)
	return p
}

// types answers some types.
func (m *maker) types(most int) []int {
	var l []int
	for range m.r.Intn(most + 1) {
		l = append(l, m.kind())
	}
	return l
}

// fill makes the function f.
func (m *maker) fill(f int) {
	m.f = f
	p := m.grow(m.r.Intn(api.MaxBlocks + 1))
	if len(p.c) > api.MaxCode-api.MaxTypes || p.high > api.MaxStack {
		p = piece{}
	}
	own := &m.s.Funcs[f]
	out := m.pushAll(own.Results)
	own.Code = slices.Concat(p.c, out)
	m.gas[f] = p.gas + len(out)
	m.want.stacks[f] = max(p.high, len(out))
	deepest, widest := 0, 0
	for _, g := range p.calls {
		deepest, widest = max(deepest, m.want.deep[g]), max(widest, m.want.rooms[g])
	}
	m.want.deep[f] = 1 + deepest
	m.want.rooms[f] = len(own.Params) + len(own.Locals) + m.want.stacks[f] + widest
	m.done = append(m.done, f)
}

// line answers the order of functions: again and again the least one whose
// callees were told.
func line(s api.Script) (order []int) {
	ready := func(f int) bool {
		return !slices.Contains(order, f) && !slices.ContainsFunc(s.Funcs[f].Code, func(x api.Instr) bool {
			return x.Op == op.Call && !slices.Contains(order, x.A)
		})
	}
	for len(order) < len(s.Funcs) {
		f := 0
		for !ready(f) {
			f++
		}
		order = append(order, f)
	}
	return order
}

// made answers a script, and what it needs; its gas may be too much.
func made(r *rand.Rand) (api.Script, needs) {
	n := 1 + r.Intn(api.MaxFuncs)
	m := maker{r: r, gas: make([]int, n), want: needs{0, make([]int, n), make([]int, n), nil, make([]int, n)}}
	m.s.Consts = []string{"", "key", "\xff"}[:1+r.Intn(3)]
	for range n {
		m.s.Funcs = append(m.s.Funcs, api.Func{Params: m.types(4), Results: m.types(4), Locals: m.types(5)})
	}
	for _, f := range r.Perm(n) {
		m.fill(f)
	}
	m.want.gas, m.want.order = m.gas[0], line(m.s)
	return m.s, m.want
}

// TestP1002Made: many scripts, of which the whole report is known.
func TestP1002Made(t *testing.T) {
	r := rand.New(rand.NewSource(10))
	dear, deep := 0, 0
	const all = 2000
	for range all {
		s, want := made(r)
		if want.gas > api.MaxGas {
			dear++
			wantError(t, s, api.ErrGas)
			continue
		}
		if want.deep[0] > 2 {
			deep++
		}
		if wantReport(t, s, want); t.Failed() {
			return
		}
	}
	if dear < all/40 || dear > all/2 || deep < all/20 {
		t.Errorf("of %d, %d take too much gas, and %d are deep: they are too much alike", all, dear, deep)
	}
}

// wholeCall answers a call of a function, with all it takes, that leaves nothing.
func wholeCall(s api.Script, f int) (c []api.Instr) {
	for _, kind := range s.Funcs[f].Params {
		c = append(c, api.Instr{Op: []int{op.PushInt, op.PushConst, op.True}[kind-1]})
	}
	c = append(c, api.Instr{Op: op.Call, A: f})
	return append(c, slices.Repeat([]api.Instr{{Op: op.Drop}}, len(s.Funcs[f].Results))...)
}

// spoilt answers a copy of s with a small change somewhere.
func spoilt(r *rand.Rand, s api.Script) api.Script {
	s = code.Clone(s)
	f := &s.Funcs[r.Intn(len(s.Funcs))]
	at := r.Intn(len(f.Code) + 1)
	some := api.Instr{Op: 1 + r.Intn(op.Call)}
	switch op.Takes(some.Op) {
	case op.Loop:
		some.A = 1
	case op.Func:
		some.A = r.Intn(len(s.Funcs))
	}
	switch {
	case r.Intn(4) == 0:
		f.Code = slices.Insert(f.Code, at, wholeCall(s, r.Intn(len(s.Funcs)))...)
	case r.Intn(4) == 0: // once more round all of it
		f.Code = slices.Concat(instrs(api.Instr{Op: op.Loops, A: api.MaxLoop}), f.Code, instrs(api.Instr{Op: op.End}))
	case r.Intn(20) == 0:
		some.A = r.Intn(300) - 20
		f.Code = slices.Insert(f.Code, at, some)
	case r.Intn(10) == 0:
		f.Results = append(f.Results, api.Bool)
	case r.Intn(10) == 0:
		f.Locals = f.Locals[:len(f.Locals)/2]
	case at == len(f.Code) || r.Intn(2) == 0:
		f.Code = slices.Insert(f.Code, at, some)
	case r.Intn(2) == 0:
		f.Code = slices.Delete(f.Code, at, at+1)
	default:
		f.Code[at] = some
	}
	return s
}

// firstError answers the first error of those that the chapter names.
func firstError(s api.Script) api.Errno {
	if !code.Right(s) {
		return api.ErrScript
	}
	if _, e := types.All(s); e != api.OK {
		return e
	}
	if _, e := calls.Order(s); e != api.OK {
		return e
	}
	_, e := bound.Total(s)
	return e
}

// someSpoilt hands scripts with some changes to visit, till a test fails.
func someSpoilt(t *testing.T, seed int64, often int, visit func(r *rand.Rand, s api.Script)) {
	r := rand.New(rand.NewSource(seed))
	for range often {
		s, _ := made(r)
		for range 1 + r.Intn(3) {
			s = spoilt(r, s)
		}
		if visit(r, s); t.Failed() {
			return
		}
	}
}

func TestP1002Spoilt(t *testing.T) {
	told := map[api.Errno]int{}
	someSpoilt(t, 1002, 4000, func(_ *rand.Rand, s api.Script) {
		want := firstError(s)
		told[want]++
		if want != api.OK {
			wantError(t, s, want)
		} else if _, e := verify.Of(s); e != api.OK {
			t.Errorf("%q: error %d", asm.Print(s), e)
		}
	})
	for _, e := range []api.Errno{api.OK, api.ErrScript, api.ErrShape, api.ErrStack, api.ErrType, api.ErrCall, api.ErrGas} {
		if told[e] < 20 {
			t.Errorf("error %d is told %d times: the scripts are too much alike", e, told[e])
		}
	}
}
