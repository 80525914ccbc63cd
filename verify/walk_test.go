package verify_test

import (
	"bytes"
	"math/rand"
	"slices"
	"testing"

	"weighhouse/api"
	"weighhouse/asm"
	"weighhouse/code"
	"weighhouse/op"
	"weighhouse/shape"
	"weighhouse/types"
	"weighhouse/verify"
)

// walker goes through a script on ways that are chosen by chance, with types in
// the place of values. It stops where something is not as it was verified.
type walker struct {
	t                *testing.T
	r                *rand.Rand
	report           verify.Report
	gas, room, calls int
}

// frame is a call that is under way.
type frame struct {
	f     int
	slots []int
	stack []int
	left  map[int]int // the rounds of loops, by the place of what opened them
}

func (w *walker) fail(fr *frame, at int, what string) {
	w.t.Fatalf("%q, function %d, place %d: %s; %+v", asm.Print(w.report.Script), fr.f, at, what, *fr)
}

// take takes types off the top, each of which must be there; 0 is any type.
func (w *walker) take(fr *frame, at int, types ...int) []int {
	if len(fr.stack) < len(types) {
		w.fail(fr, at, "the stack holds too little")
	}
	cut := len(fr.stack) - len(types)
	got := slices.Clone(fr.stack[cut:])
	for i, kind := range types {
		if kind != 0 && kind != got[i] {
			w.fail(fr, at, "another type")
		}
	}
	fr.stack = fr.stack[:cut]
	w.room -= len(types)
	return got
}

// put puts types there, and looks at what was told of stacks and rooms.
func (w *walker) put(fr *frame, at int, types ...int) {
	fr.stack = append(fr.stack, types...)
	w.room += len(types)
	if len(fr.stack) > w.report.Stacks[fr.f] || len(fr.stack) > api.MaxStack {
		w.fail(fr, at, "the stack is higher than it was told")
	}
	if w.room > w.report.Rooms[0] {
		w.fail(fr, at, "more room than was told")
	}
}

// call goes through a function whose arguments are taken off already.
func (w *walker) call(f int) {
	own := w.report.Script.Funcs[f]
	fr := &frame{f: f, slots: code.Slots(own), left: map[int]int{}}
	w.room += len(fr.slots)
	w.calls++
	if w.calls > w.report.Deep[0] {
		w.fail(fr, 0, "deeper than it was told")
	}
	m, e := shape.Match(own.Code)
	if e != api.OK {
		w.fail(fr, 0, "no good shape")
	}
	for at := 0; at < len(own.Code); {
		if w.gas += op.Cost(own.Code[at].Op); w.gas > w.report.Gas {
			w.fail(fr, at, "more gas than its bound")
		}
		at = shape.Next(own.Code, m, at, w.step(fr, own.Code, m, at))
	}
	if !slices.Equal(fr.stack, own.Results) {
		w.fail(fr, len(own.Code), "these are not the Results")
	}
	w.room -= len(fr.slots) + len(fr.stack)
	w.calls--
}

// step does one instruction, and answers which way it leads.
func (w *walker) step(fr *frame, c []api.Instr, m []int, at int) (yes bool) {
	x := c[at]
	switch x.Op {
	case op.Dup:
		a := w.take(fr, at, 0)
		w.put(fr, at, a[0], a[0])
	case op.Swap:
		a := w.take(fr, at, 0, 0)
		w.put(fr, at, a[1], a[0])
	case op.Over:
		a := w.take(fr, at, 0, 0)
		w.put(fr, at, a[0], a[1], a[0])
	case op.Get:
		w.put(fr, at, fr.slots[x.A])
	case op.Set:
		w.take(fr, at, fr.slots[x.A])
	case op.If, op.Leave:
		w.take(fr, at, api.Bool)
		return w.r.Intn(2) == 0
	case op.Loops:
		fr.left[at] = x.A
	case op.End:
		fr.left[m[at]]--
		return c[m[at]].Op == op.Loops && fr.left[m[at]] > 0
	case op.Call:
		callee := w.report.Script.Funcs[x.A]
		w.take(fr, at, callee.Params...)
		w.call(x.A)
		w.put(fr, at, callee.Results...)
	default:
		w.take(fr, at, op.In(x.Op)...)
		w.put(fr, at, op.Out(x.Op)...)
	}
	return false
}

// wantSound holds a script that is verified to P1003, function by function and
// on some ways through it.
func wantSound(t *testing.T, r *rand.Rand, s api.Script, report verify.Report) {
	t.Helper()
	for f, own := range s.Funcs {
		if _, e := shape.Match(own.Code); e != api.OK {
			t.Errorf("%q, %d: verified, and no good shape", asm.Print(s), f)
		}
		l, e := types.Check(s, f)
		if e != api.OK {
			t.Errorf("%q, %d: verified, and stacks that do not fit: %d", asm.Print(s), f, e)
		}
		highest := 0
		for _, stack := range l {
			highest = max(highest, len(stack))
		}
		if report.Stacks[f] != highest {
			t.Errorf("%q, %d: Stacks %d, and %d stand there", asm.Print(s), f, report.Stacks[f], highest)
		}
		for _, x := range own.Code {
			if x.Op == op.Call && (report.Deep[f] <= report.Deep[x.A] || slices.Index(report.Order, x.A) > slices.Index(report.Order, f)) {
				t.Errorf("%q: %d calls %d: Deep %v, Order %v", asm.Print(s), f, x.A, report.Deep, report.Order)
			}
		}
	}
	if report.Gas > api.MaxGas || report.Gas < 0 {
		t.Errorf("%q: Gas %d", asm.Print(s), report.Gas)
	}
	if report.Gas > 20000 { // the way through it is too long
		return
	}
	for range 3 {
		w := walker{t: t, r: r, report: report}
		w.call(0)
	}
}

// TestP1003Sound: whatever was changed in a script, if it is verified, it is
// sound.
func TestP1003Sound(t *testing.T) {
	verified := 0
	someSpoilt(t, 1003, 4000, func(r *rand.Rand, s api.Script) {
		if report, e := verify.Of(s); e == api.OK {
			verified++
			wantSound(t, r, s, report)
		}
	})
	if verified < 300 {
		t.Error("only", verified, "are verified")
	}
}

// TestP1003AllShort: all functions of up to 5 of some instructions: what Of
// tells is OK just of those that are sound, by the ways that can be gone.
func TestP1003AllShort(t *testing.T) {
	some := []api.Instr{{Op: op.If}, {Op: op.Else}, {Op: op.End}, {Op: op.Loops, A: 2}, {Op: op.Leave}, {Op: op.True}, {Op: op.Neg}, {Op: op.Drop}, {Op: op.Call, A: 1}}
	r := rand.New(rand.NewSource(3))
	verified := 0
	var grow func(c []api.Instr)
	grow = func(c []api.Instr) {
		s := script(c, nil)
		report, e := verify.Of(s)
		if want := firstError(s); e != want {
			t.Fatalf("%v: error %d, want %d", c, e, want)
		}
		if e == api.OK {
			verified++
			wantSound(t, r, s, report)
		}
		if len(c) == 5 || t.Failed() {
			return
		}
		for _, x := range some {
			grow(append(slices.Clone(c), x))
		}
	}
	grow(nil)
	if verified < 50 {
		t.Error("only", verified, "are verified")
	}
}

// wantAgain holds Check of bytes to P1004, if they are verified.
func wantAgain(t *testing.T, b []byte) bool {
	t.Helper()
	report, e := verify.Check(b)
	if e != api.OK {
		if !isZero(report) {
			t.Errorf("%v: error %d, and %+v", b, e, report)
		}
		return false
	}
	if again, e := code.Put(report.Script); e != api.OK || !bytes.Equal(again, b) {
		t.Errorf("%v: again %v, error %d", b, again, e)
	}
	return true
}

func TestP1004Again(t *testing.T) {
	r := rand.New(rand.NewSource(4))
	verified := 0
	for range 1500 {
		s, _ := made(r)
		if wantAgain(t, put(t, s)) {
			verified++
		}
	}
	if verified < 500 {
		t.Error("only", verified, "are verified")
	}
	wantAgain(t, []byte{0, 1, 0, 0, 0, 0, 0})
}

// TestP1004OneByteChanged: whatever one byte is changed to, what is verified is
// what was checked.
func TestP1004OneByteChanged(t *testing.T) {
	verified := 0
	for _, text := range []string{
		"func -> ;",
		"const x'6162' / const x'' / func int bytes -> int ; bool / get 0 / loop 3 / call 1 / end / get 2 / if / int 1000 / add / end / func int -> int ; / get 0 / dup / add",
		"const x'6b' / func -> bool bytes ; / const 0 / dup / has / swap / func bool bool -> bool ; / get 0 / get 1 / both / loop 2 / not / end",
	} {
		b := put(t, parse(t, text))
		for at := range b {
			for n := range 256 {
				changed := slices.Clone(b)
				changed[at] = byte(n)
				if wantAgain(t, changed) {
					verified++
				}
			}
		}
	}
	if verified < 500 {
		t.Error("only", verified, "are verified")
	}
}

// TestP1004AnyBytes: bytes by chance, most of which are no script.
func TestP1004AnyBytes(t *testing.T) {
	r := rand.New(rand.NewSource(5))
	verified := 0
	for range 50000 {
		b := make([]byte, r.Intn(6))
		for i := range b {
			b[i] = byte([]int{r.Intn(3), r.Intn(6), r.Intn(60), r.Intn(256)}[r.Intn(4)])
		}
		if r.Intn(2) == 0 { // the instructions of a function alone
			b = append([]byte{0, 1, 0, 0, 0, 0, byte(len(b))}, b...)
		}
		if wantAgain(t, b) {
			verified++
		}
	}
	if verified < 100 {
		t.Error("only", verified, "are verified")
	}
}
