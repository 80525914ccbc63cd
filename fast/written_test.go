package fast_test

import (
	"math"
	"math/rand"
	"slices"
	"strings"
	"testing"

	"weighhouse/api"
	"weighhouse/code"
	"weighhouse/op"
	"weighhouse/store"
	"weighhouse/value"
	"weighhouse/verify"
)

// writer writes a function whose stacks fit, instruction by instruction.
type writer struct {
	r     *rand.Rand
	s     api.Script
	f     int
	code  []api.Instr
	stack []int
}

// effect answers what x takes off a stack, and puts there.
func (w *writer) effect(x api.Instr) (in, out []int) {
	slots, n := code.Slots(w.s.Funcs[w.f]), len(w.stack)
	switch x.Op {
	case op.Dup:
		if n > 0 {
			return w.stack[n-1:], slices.Repeat(w.stack[n-1:], 2)
		}
	case op.Swap, op.Over:
		if n > 1 {
			a, b := w.stack[n-2], w.stack[n-1]
			return []int{a, b}, map[int][]int{op.Swap: {b, a}, op.Over: {a, b, a}}[x.Op]
		}
	case op.Get:
		return nil, slots[x.A : x.A+1]
	case op.Set:
		return slots[x.A : x.A+1], nil
	case op.Call:
		return w.s.Funcs[x.A].Params, w.s.Funcs[x.A].Results
	}
	return op.In(x.Op), op.Out(x.Op)
}

func (w *writer) do(x api.Instr) {
	in, out := w.effect(x)
	w.code = append(w.code, x)
	w.stack = slices.Concat(w.stack[:len(w.stack)-len(in)], out)
}

// push puts a value of a type there.
func (w *writer) push(kind int) {
	slots := code.Slots(w.s.Funcs[w.f])
	if at := w.r.Intn(len(slots) + 1); at < len(slots) && slots[at] == kind {
		w.do(api.Instr{Op: op.Get, A: at})
		return
	}
	switch kind {
	case api.Int:
		w.do(api.Instr{Op: op.PushInt, A: someNumber(w.r)})
	case api.Bytes:
		w.do(api.Instr{Op: op.PushConst, A: w.r.Intn(len(w.s.Consts))})
	default:
		w.do(api.Instr{Op: op.True + w.r.Intn(2)})
	}
}

// reach makes the stack another one.
func (w *writer) reach(want []int) {
	for len(w.stack) > len(want) || !slices.Equal(w.stack, want[:len(w.stack)]) {
		w.do(api.Instr{Op: op.Drop})
	}
	for _, kind := range want[len(w.stack):] {
		w.push(kind)
	}
}

// any does one instruction that is not of blocks, with what it takes put there
// ahead of it, if need be. Those that are behind this one are called.
func (w *writer) any() {
	x, ok := someInstr(w.r, w.s, w.f)
	if w.r.Intn(5) == 0 { // more often than by chance alone
		x, ok = api.Instr{Op: op.Load + w.r.Intn(op.Abort-op.Load)}, true
	}
	switch {
	case !ok, x.Op >= op.If && x.Op <= op.Leave, x.Op == op.Call && x.A <= w.f, x.Op == op.Abort && w.r.Intn(4) > 0:
		return
	case x.Op == op.Dup || x.Op == op.Drop || x.Op == op.Swap || x.Op == op.Over:
		for len(w.stack) < 2 {
			w.push(1 + w.r.Intn(3))
		}
	}
	in, _ := w.effect(x)
	if below := len(w.stack) - len(in); below < 0 || !slices.Equal(w.stack[below:], in) && x.Op != op.Drop {
		for _, kind := range in {
			w.push(kind)
		}
	}
	w.do(x)
	if len(w.stack) > 12 {
		w.reach(w.stack[:4])
	}
}

// some writes a few instructions and blocks; loop is the entry of the innermost
// loop, if there is one.
func (w *writer) some(depth int, inLoop bool, loop []int) {
	for range 1 + w.r.Intn(4) {
		switch k := w.r.Intn(9); {
		case k == 0 && depth > 0:
			w.push(api.Bool)
			w.do(api.Instr{Op: op.If})
			w.branches(depth-1, inLoop, loop)
		case k <= 2 && depth > 0:
			w.do(api.Instr{Op: op.Loops, A: []int{1, 2, 3, 20}[w.r.Intn(4)]})
			entry := w.stack
			w.some(depth-1, true, entry)
			w.reach(entry)
			w.do(api.Instr{Op: op.End})
		case k == 3 && inLoop:
			w.reach(loop)
			w.push(api.Bool)
			w.do(api.Instr{Op: op.Leave})
		default:
			w.any()
		}
	}
}

// branches writes what stands within an if, and its end.
func (w *writer) branches(depth int, inLoop bool, loop []int) {
	entry := w.stack
	w.some(depth, inLoop, loop)
	if w.r.Intn(2) == 0 {
		w.reach(entry)
	} else {
		last := w.stack
		w.do(api.Instr{Op: op.Else})
		w.stack = entry
		w.some(depth, inLoop, loop)
		w.reach(last)
	}
	w.do(api.Instr{Op: op.End})
}

// written answers a script whose functions' stacks fit; it is verified, but for
// its gas.
func written(r *rand.Rand) api.Script {
	s := api.Script{Consts: []string{"", "a", "k", "key001", "\x00\x01\x02", strings.Repeat("v", 200), strings.Repeat("l", api.MaxKey+1)}}
	for range 1 + r.Intn(4) {
		s.Funcs = append(s.Funcs, api.Func{Params: someTypes(r, 3), Results: someTypes(r, 3), Locals: someTypes(r, 4)})
	}
	for f := range s.Funcs {
		w := &writer{r: r, s: s, f: f}
		for range 1 + r.Intn(3) {
			w.some(r.Intn(4), false, nil)
		}
		w.reach(s.Funcs[f].Results)
		if len(w.code) > api.MaxCode {
			w.code, w.stack = nil, nil
			w.reach(s.Funcs[f].Results)
		}
		s.Funcs[f].Code = w.code
	}
	return s
}

// verified answers a script that is verified, with arguments of it. It may have
// been changed by chance.
func verified(r *rand.Rand) (api.Script, []api.Value) {
	for {
		s := written(r)
		if r.Intn(3) == 0 {
			s = spoilt(r, s)
		}
		if report, e := verify.Of(s); e == api.OK && report.Gas < 20000 {
			return s, someArgs(r, s)
		}
	}
}

// spoilt answers a copy of s with an instruction more, less, or another one than
// it has.
func spoilt(r *rand.Rand, s api.Script) api.Script {
	s = code.Clone(s)
	f := r.Intn(len(s.Funcs))
	c := &s.Funcs[f].Code
	at := r.Intn(len(*c) + 1)
	x, ok := someInstr(r, s, f)
	if at < len(*c) && r.Intn(3) > 0 {
		*c = slices.Delete(*c, at, at+1)
	}
	if ok && r.Intn(3) > 0 {
		*c = slices.Insert(*c, at, x)
	}
	return s
}

// someInstr answers an instruction that may be in the function f, and false now
// and then, where there is none.
func someInstr(r *rand.Rand, s api.Script, f int) (api.Instr, bool) {
	x := api.Instr{Op: 1 + r.Intn(op.Call)}
	most := 1
	switch op.Takes(x.Op) {
	case op.None:
		return x, true
	case op.Number:
		x.A = someNumber(r)
		return x, true
	case op.Loop:
		x.A = 1 + r.Intn(api.MaxLoop)
		return x, true
	case op.Const:
		most = len(s.Consts)
	case op.Local:
		most = len(code.Slots(s.Funcs[f]))
	case op.Func:
		most = len(s.Funcs)
	}
	if most == 0 {
		return x, false
	}
	x.A = r.Intn(most)
	return x, true
}

// someNumber answers a small number, most times.
func someNumber(r *rand.Rand) int {
	if r.Intn(12) == 0 {
		return []int{math.MinInt, math.MaxInt, -1, 255, 256}[r.Intn(5)]
	}
	return r.Intn(5)
}

func someTypes(r *rand.Rand, most int) []int {
	l := make([]int, r.Intn(most+1))
	for i := range l {
		l[i] = 1 + r.Intn(3)
	}
	return l
}

// someArgs answers arguments of s.
func someArgs(r *rand.Rand, s api.Script) (l []api.Value) {
	for _, kind := range s.Funcs[0].Params {
		switch kind {
		case api.Int:
			l = append(l, value.Number(someNumber(r)))
		case api.Bytes:
			l = append(l, value.Text([]string{"", "a", "k", "key001", strings.Repeat("w", api.MaxValue)}[r.Intn(5)]))
		case api.Bool:
			l = append(l, value.Truth(r.Intn(2) == 0))
		}
	}
	return l
}

// someStore answers a store that is empty, has a few keys, or is about full.
func someStore(r *rand.Rand) *store.Store {
	return full([]int{0, 1, 2, 2, 2, 6, 6, 9, api.MaxKeys - 1, api.MaxKeys}[r.Intn(10)])
}

// mayEnd are the errors that a verified script may end with.
var mayEnd = []api.Errno{api.OK, api.ErrZero, api.ErrLong, api.ErrIndex, api.ErrAbort, api.ErrEmit, api.ErrRoom}

// tally counts what runs came to.
type tally map[api.Errno]int

func (n tally) wantSome(t *testing.T, least int, l ...api.Errno) {
	t.Helper()
	for _, e := range l {
		if n[e] < least {
			t.Errorf("error %d came %d times: the scripts are too much alike", e, n[e])
		}
	}
}

// TestP1303Written: long scripts of all kinds, with arguments and stores of all
// kinds.
func TestP1303Written(t *testing.T) {
	r := rand.New(rand.NewSource(1303))
	n := tally{}
	done := map[int]int{}
	for range 3500 {
		s, args := verified(r)
		got := wantSlow(t, s, args, someStore(r))
		if n[got.E]++; t.Failed() {
			return
		}
		for _, f := range s.Funcs {
			for _, x := range f.Code {
				done[x.Op]++
			}
		}
	}
	n.wantSome(t, 30, mayEnd...)
	for o := op.PushInt; o <= op.Call; o++ {
		if done[o] < 30 {
			t.Errorf("%s stands in the scripts only %d times", op.Name(o), done[o])
		}
	}
}

// TestP1303AllShort: all verified functions of up to 6 instructions of some
// kinds.
func TestP1303AllShort(t *testing.T) {
	few := []api.Instr{{Op: op.PushInt, A: 1}, {Op: op.True}, {Op: op.Drop}, {Op: op.Over}, {Op: op.Abort}, {Op: op.Call, A: 1},
		{Op: op.If}, {Op: op.Else}, {Op: op.End}, {Op: op.Loops, A: 2}, {Op: op.Leave}}
	n, on := tally{}, store.New()
	var grow func(c []api.Instr, open int)
	grow = func(c []api.Instr, open int) {
		for _, results := range [][]int{nil, {api.Int}} {
			s := api.Script{Funcs: []api.Func{{Results: results, Code: c}, {Params: []int{api.Bool}, Results: []int{api.Int}, Code: []api.Instr{{Op: op.PushInt, A: 3}}}}}
			if open > 0 {
				continue
			}
			if _, e := verify.Of(s); e == api.OK {
				n[wantSlow(t, s, nil, on).E]++
			}
		}
		if t.Failed() || len(c) == 6 {
			return
		}
		for _, x := range few {
			more := open
			switch x.Op {
			case op.If, op.Loops:
				more++
			case op.End:
				more--
			}
			if more >= 0 && len(c)+more < 6 {
				grow(append(slices.Clone(c), x), more)
			}
		}
	}
	grow(nil, 0)
	n.wantSome(t, 500, api.OK, api.ErrAbort)
}
