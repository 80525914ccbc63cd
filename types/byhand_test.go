package types_test

import (
	"math/rand"
	"slices"
	"strings"
	"testing"

	"weighhouse/api"
	"weighhouse/asm"
	"weighhouse/op"
	"weighhouse/shape"
	"weighhouse/types"
)

// handSign answers what an instruction takes and puts, in letters, where this
// stands on the stack of the function f.
func handSign(s api.Script, f int, x api.Instr, ahead string) (in, out string) {
	own := s.Funcs[f]
	top := ahead[max(len(ahead)-2, 0):]
	switch op.Name(x.Op) {
	case "drop":
		return "?", ""
	case "dup":
		return "?", strings.Repeat(ahead[max(len(ahead)-1, 0):], 2)
	case "swap":
		if len(top) == 2 {
			return "??", top[1:] + top[:1]
		}
		return "??", ""
	case "over":
		if len(top) == 2 {
			return "??", top + top[:1]
		}
		return "??", ""
	case "get":
		return "", word(append(slices.Clone(own.Params), own.Locals...)[x.A : x.A+1])
	case "set":
		return word(append(slices.Clone(own.Params), own.Locals...)[x.A : x.A+1]), ""
	case "if", "leave":
		return "b", ""
	case "else", "end", "loop":
		return "", ""
	case "call":
		return word(s.Funcs[x.A].Params), word(s.Funcs[x.A].Results)
	}
	r := fixed[op.Name(x.Op)]
	return r.in, r.out
}

// fixed has the rows by the names of their operations.
var fixed = byName(rows())

func byName(l []row) map[string]row {
	m := map[string]row{}
	for _, r := range l {
		name, _, _ := strings.Cut(r.line, " ")
		m[name] = r
	}
	return m
}

// handStep answers what stands behind a step: where the types that are there
// are not those that it takes, they are other ones; else there are too few.
func handStep(s api.Script, f int, x api.Instr, ahead string) (string, api.Errno) {
	in, out := handSign(s, f, x, ahead)
	for i := 1; i <= min(len(in), len(ahead)); i++ {
		if c := in[len(in)-i]; c != '?' && c != ahead[len(ahead)-i] {
			return "", api.ErrType
		}
	}
	if len(in) > len(ahead) {
		return "", api.ErrStack
	}
	return ahead[:len(ahead)-len(in)] + out, api.OK
}

func handAlike(a, b string) api.Errno {
	switch {
	case a == b:
		return api.OK
	case len(a) != len(b):
		return api.ErrStack
	}
	return api.ErrType
}

// handOpener answers the place of the innermost block around at, of a loop, if
// that is asked.
func handOpener(c []api.Instr, at int, loop bool) int {
	closed := 0
	for i := at - 1; ; i-- {
		switch c[i].Op {
		case op.End:
			closed++
		case op.If, op.Loops:
			if closed == 0 && (c[i].Op == op.Loops || !loop) {
				return i
			}
			closed = max(closed-1, 0)
		}
	}
}

// handElse answers the place of the else of the block from start to end; -1, if
// there is none.
func handElse(c []api.Instr, start, end int) int {
	for i := start + 1; i < end; i++ {
		if c[i].Op == op.Else && handOpener(c, i, false) == start {
			return i
		}
	}
	return -1
}

// handMust answers what must stand where the instruction at at has been, and
// whether anything must.
func handMust(c []api.Instr, at int, ahead []string) (string, bool) {
	switch c[at].Op {
	case op.Leave:
		return ahead[handOpener(c, at, true)+1], true
	case op.End:
		start := handOpener(c, at, false)
		if half := handElse(c, start, at); half >= 0 {
			return ahead[half], true
		}
		return ahead[start+1], true
	}
	return "", false
}

// handCheck is what the chapter says of a function of good shape, asked of each
// place by itself.
func handCheck(s api.Script, f int) ([]string, api.Errno) {
	c := s.Funcs[f].Code
	ahead := []string{""}
	for at, x := range c {
		behind, e := handStep(s, f, x, ahead[at])
		if e != api.OK {
			return nil, e
		}
		if must, is := handMust(c, at, ahead); is && must != behind {
			return nil, handAlike(behind, must)
		}
		if x.Op == op.Else {
			behind = ahead[handOpener(c, at, false)+1]
		}
		if len(behind) > api.MaxStack {
			return nil, api.ErrStack
		}
		ahead = append(ahead, behind)
	}
	if e := handAlike(ahead[len(c)], word(s.Funcs[f].Results)); e != api.OK {
		return nil, e
	}
	return ahead, api.OK
}

// count is how many functions came to each error.
type count map[api.Errno]int

func (n count) wantSome(t *testing.T, least int) {
	t.Helper()
	for _, e := range []api.Errno{api.OK, api.ErrShape, api.ErrStack, api.ErrType} {
		if n[e] < least {
			t.Errorf("only %d functions came to %d", n[e], e)
		}
	}
}

// wantByHand holds Check and All of s to what they are by hand.
func wantByHand(t *testing.T, s api.Script, n count) {
	t.Helper()
	first := api.OK
	var most []int
	for f := range s.Funcs {
		words, e := []string(nil), api.ErrShape
		if _, bad := shape.Match(s.Funcs[f].Code); bad == api.OK {
			words, e = handCheck(s, f)
		}
		n[e]++
		if e != api.OK {
			wantBad(t, s, f, e)
		} else {
			wantCheck(t, s, f, words...)
			most = append(most, len(slices.MaxFunc(words, func(a, b string) int { return len(a) - len(b) })))
		}
		if first == api.OK {
			first = e
		}
	}
	if first == api.OK {
		wantMost(t, s, most...)
	} else if l, e := types.All(s); e != first || len(l) != 0 {
		t.Errorf("All of %q: %v, error %d, want %d", asm.Print(s), l, e, first)
	}
}

// allShort hands all functions of up to size instructions of a few kinds to
// visit, and goes on from none whose blocks cannot be closed any more.
func allShort(size int, visit func(s api.Script)) {
	few := []api.Instr{{Op: op.PushInt, A: 1}, {Op: op.True}, {Op: op.Drop}, {Op: op.Swap},
		{Op: op.If}, {Op: op.Else}, {Op: op.End}, {Op: op.Loops, A: 2}, {Op: op.Leave}}
	var grow func(c []api.Instr, open int)
	grow = func(c []api.Instr, open int) {
		for _, results := range [][]int{nil, {api.Int}} {
			visit(api.Script{Funcs: []api.Func{{Results: results, Code: c}}})
		}
		if open < 0 || len(c)+open > size || len(c) == size {
			return
		}
		for _, x := range few {
			more := open
			switch x.Op {
			case op.If, op.Loops:
				more++
			case op.End:
				more--
			}
			grow(append(slices.Clone(c), x), more)
		}
	}
	grow(nil, 0)
}

func TestP703ByHandShort(t *testing.T) {
	n := count{}
	allShort(6, func(s api.Script) { wantByHand(t, s, n) })
	n.wantSome(t, 300)
}

// writer writes a function whose stacks fit.
type writer struct {
	r     *rand.Rand
	s     api.Script
	f     int
	code  []api.Instr
	stack string
}

// do puts an instruction behind the others.
func (w *writer) do(n, a int) {
	x := api.Instr{Op: n, A: a}
	w.code = append(w.code, x)
	w.stack, _ = handStep(w.s, w.f, x, w.stack)
}

// reach makes the stack another one.
func (w *writer) reach(want string) {
	for !strings.HasPrefix(want, w.stack) {
		w.do(op.Drop, 0)
	}
	for _, c := range want[len(w.stack):] {
		switch c {
		case 'i':
			w.do(op.PushInt, w.r.Int())
		case 'y':
			w.do(op.PushConst, w.r.Intn(len(w.s.Consts)))
		case 'b':
			w.do(op.False, 0)
		}
	}
}

// any does one instruction that is not of blocks, and makes the stack fit, if
// it must.
func (w *writer) any() {
	x := api.Instr{Op: 1 + w.r.Intn(op.Call)}
	switch op.Takes(x.Op) {
	case op.Number:
		x.A = w.r.Int()
	case op.Const:
		x.A = w.r.Intn(len(w.s.Consts))
	case op.Func:
		x.A = w.r.Intn(len(w.s.Funcs))
	case op.Local:
		slots := len(w.s.Funcs[w.f].Params) + len(w.s.Funcs[w.f].Locals)
		if slots == 0 {
			return
		}
		x.A = w.r.Intn(slots)
	}
	if x.Op >= op.If && x.Op <= op.Leave {
		return
	}
	if _, e := handStep(w.s, w.f, x, w.stack); e != api.OK {
		in, _ := handSign(w.s, w.f, x, w.stack)
		w.reach(w.stack[:w.r.Intn(len(w.stack)+1)] + strings.ReplaceAll(in, "?", "y"))
	}
	w.do(x.Op, x.A)
	if len(w.stack) > api.MaxStack-16 {
		w.reach(w.stack[:api.MaxStack-16])
	}
}

// part writes a few instructions and blocks; loop is the innermost one's entry.
func (w *writer) part(depth int, inLoop bool, loop string) {
	for range 1 + w.r.Intn(3) {
		switch k := w.r.Intn(8); {
		case k == 0 && depth > 0:
			w.reach(w.stack + "b")
			w.do(op.If, 0)
			w.branches(depth-1, inLoop, loop)
		case k == 1 && depth > 0:
			w.do(op.Loops, 1+w.r.Intn(api.MaxLoop))
			entry := w.stack
			w.part(depth-1, true, entry)
			w.reach(entry)
			w.do(op.End, 0)
		case k == 2 && inLoop:
			w.reach(loop + "b")
			w.do(op.Leave, 0)
		default:
			w.any()
		}
	}
}

// branches writes what stands within an if, and its end.
func (w *writer) branches(depth int, inLoop bool, loop string) {
	entry := w.stack
	w.part(depth, inLoop, loop)
	if w.r.Intn(2) == 0 {
		w.reach(entry)
	} else {
		last := w.stack
		w.do(op.Else, 0)
		w.stack = entry
		w.part(depth, inLoop, loop)
		w.reach(last)
	}
	w.do(op.End, 0)
}

// someTypes answers up to so many types.
func someTypes(r *rand.Rand, most int) []int {
	l := make([]int, r.Intn(most+1))
	for i := range l {
		l[i] = 1 + r.Intn(3)
	}
	return l
}

// written answers a script whose functions' stacks fit.
func written(r *rand.Rand) api.Script {
	s := api.Script{Consts: []string{"a", "bc"}}
	for range 1 + r.Intn(4) {
		s.Funcs = append(s.Funcs, api.Func{Params: someTypes(r, 3), Results: someTypes(r, 3), Locals: someTypes(r, 4)})
	}
	for f := range s.Funcs {
		w := &writer{r: r, s: s, f: f}
		w.part(r.Intn(5), false, "")
		for range 3 {
			w.part(2, false, "")
		}
		w.reach(word(s.Funcs[f].Results))
		if len(w.code) > api.MaxCode {
			w.code, w.stack = nil, ""
			w.reach(word(s.Funcs[f].Results))
		}
		s.Funcs[f].Code = w.code
	}
	return s
}

// changed answers a copy of s with one instruction more, less or another one
// than it has.
func changed(r *rand.Rand, s api.Script) api.Script {
	s.Funcs = slices.Clone(s.Funcs)
	f := &s.Funcs[r.Intn(len(s.Funcs))]
	at := r.Intn(len(f.Code) + 1)
	behind := slices.Clone(f.Code[at:])
	if len(behind) > 0 && r.Intn(3) > 0 {
		behind = behind[1:]
	}
	x := api.Instr{Op: 1 + r.Intn(op.Call)}
	f.Code = slices.Clone(f.Code[:at])
	if op.Takes(x.Op) == op.None && r.Intn(3) > 0 {
		f.Code = append(f.Code, x)
	}
	f.Code = append(f.Code, behind...)
	return s
}

// someLong hands longer scripts to visit: first one whose stacks fit, then
// others that are near it.
func someLong(rounds int, visit func(s api.Script)) {
	r := rand.New(rand.NewSource(7))
	for range rounds {
		s := written(r)
		visit(s)
		for range 4 {
			other := changed(r, s)
			if !slices.ContainsFunc(other.Funcs, func(f api.Func) bool { return len(f.Code) > api.MaxCode }) {
				visit(other)
			}
		}
	}
}

func TestP703ByHandLong(t *testing.T) {
	n := count{}
	someLong(1500, func(s api.Script) { wantByHand(t, s, n) })
	n.wantSome(t, 100)
}

// wantOneStep holds the stacks of the function f to each other: the one behind
// each instruction to those where one may go on from there.
func wantOneStep(t *testing.T, s api.Script, f int, l [][]int) {
	t.Helper()
	c := s.Funcs[f].Code
	m, e := shape.Match(c)
	if e != api.OK || len(l) != len(c)+1 || len(l[0]) != 0 || !slices.Equal(l[len(c)], s.Funcs[f].Results) {
		t.Fatalf("%q, %d: %v, error %d", asm.Print(s), f, l, e)
	}
	for at, x := range c {
		behind, e := handStep(s, f, x, word(l[at]))
		if e != api.OK {
			t.Fatalf("%q, %d: the step at %d cannot be done on %v", asm.Print(s), f, at, l[at])
		}
		for _, yes := range []bool{false, true} {
			if yes && x.Op == op.End && c[m[at]].Op == op.If {
				continue // an if's block goes round never more
			}
			if next := shape.Next(c, m, at, yes); word(l[next]) != behind {
				t.Errorf("%q, %d: %q behind %d, %v ahead of %d", asm.Print(s), f, behind, at, l[next], next)
			}
		}
	}
}

func TestP705OneStep(t *testing.T) {
	told := 0
	look := func(s api.Script) {
		for f := range s.Funcs {
			if l, e := types.Check(s, f); e == api.OK {
				wantOneStep(t, s, f, l)
				told++
			}
		}
	}
	look(read(t, mixed))
	if told != 3 {
		t.Error(told, "functions of the mixed script are told")
	}
	allShort(6, look)
	someLong(1500, look)
	if told < 3000 {
		t.Error("only", told, "functions are told")
	}
}
