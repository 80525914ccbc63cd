package types

import (
	"weighhouse/api"
	"weighhouse/code"
	"weighhouse/op"
	"weighhouse/shape"
)

// walk goes through the instructions of one of funcs, whose slots these are.
// The stack is another list behind each instruction: what was the stack once
// stays as it was, in the answer and in blocks.
type walk struct {
	funcs []api.Func
	slots []int
	stack []int
	open  blocks
}

// stacks answers what Check answers of the function f of a script that may be.
func stacks(funcs []api.Func, f int) ([][]int, api.Errno) {
	own := funcs[f]
	if _, e := shape.Match(own.Code); e != api.OK {
		return nil, e
	}
	w := &walk{funcs: funcs, slots: code.Slots(own)}
	var ahead [][]int
	for _, x := range own.Code {
		ahead = append(ahead, w.stack)
		if e := w.pass(x); e != api.OK {
			return nil, e
		}
	}
	if e := Alike(w.stack, own.Results); e != api.OK {
		return nil, e
	}
	return append(ahead, w.stack), api.OK
}

// pass goes from ahead of x to behind it.
func (w *walk) pass(x api.Instr) api.Errno {
	if e := w.step(x); e != api.OK {
		return e
	}
	if e := w.turn(x.Op); e != api.OK {
		return e
	}
	if len(w.stack) > api.MaxStack {
		return api.ErrStack
	}
	return api.OK
}

// step takes off the stack what x takes, and puts what it puts.
func (w *walk) step(x api.Instr) api.Errno {
	left, e := take(w.stack, w.taken(x)...)
	if e != api.OK {
		return e
	}
	w.stack = put(left, w.given(x, w.stack[len(left):])...)
	return api.OK
}

// taken answers the types that x takes off the stack, the last one from the
// top.
func (w *walk) taken(x api.Instr) []int {
	switch x.Op {
	case op.Set:
		return w.slots[x.A : x.A+1]
	case op.Call:
		return w.funcs[x.A].Params
	}
	return op.In(x.Op)
}

// given answers the types that x puts onto the stack, had being those that it
// took.
func (w *walk) given(x api.Instr, had []int) []int {
	switch x.Op {
	case op.Dup:
		return put(had, had...)
	case op.Swap:
		return put(had[1:], had[0])
	case op.Over:
		return put(had, had[0])
	case op.Get:
		return w.slots[x.A : x.A+1]
	case op.Call:
		return w.funcs[x.A].Results
	}
	return op.Out(x.Op)
}

// turn opens and closes blocks as the operation n does, behind whose step the
// stack is as it is. Good shape has given n the block that it needs.
func (w *walk) turn(n int) api.Errno {
	switch n {
	case op.If, op.Loops:
		w.open.begin(w.stack, n == op.Loops)
	case op.Else:
		b := w.open.innermost()
		b.last = w.stack
		w.stack = put(b.entry)
	case op.End:
		return Alike(w.stack, w.open.close().last)
	case op.Leave:
		return Alike(w.stack, w.open.innermostLoop().entry)
	}
	return api.OK
}
