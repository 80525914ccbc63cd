package fast

import (
	"weighhouse/api"
	"weighhouse/op"
	"weighhouse/store"
)

// nowhere is the place where a run ends.
const nowhere = -1

// run is a run of a program, with arguments that fit. It does the steps of the
// frame that it embeds; below are those that wait for it to end. The first one
// of them is no function's: it has the whole room, and what the first function
// leaves goes to its stack. Left has the rounds that are left of each loop that
// is open, in all frames, the innermost one last.
type run struct {
	*Program
	frame
	below   []frame
	left    []int
	tx      *store.Tx
	emits   []string
	at, gas int
}

func newRun(p *Program, args []api.Value, t *store.Tx) *run {
	r := &run{Program: p, frame: frame{rest: make([]slot, p.room)}, tx: t, at: nowhere}
	l := make([]slot, len(args))
	for i, v := range args {
		l[i] = slot{v.N, v.B}
	}
	r.call(p.routines[0], l)
	return r
}

// steps goes along the row till the run ends, or to the first error.
func (r *run) steps() api.Errno {
	for r.at != nowhere {
		x := &r.row[r.at]
		r.at = x.to[0]
		r.gas += x.cost
		if e := r.do(x, r.take(x.takes)); e != api.OK {
			return e
		}
	}
	return api.OK
}

// out answers what the first function has left, with its types again.
func (r *run) out() []api.Value {
	var l []api.Value
	for i, kind := range r.script.Funcs[0].Results {
		l = append(l, api.Value{Type: kind, N: r.stack[i].n, B: r.stack[i].b})
	}
	return l
}

// do does an instruction with what it took off the stack. It asks only for what
// no verification can tell ahead.
func (r *run) do(x *instr, in []slot) api.Errno {
	switch x.op {
	case op.PushInt, op.PushConst, op.True, op.False:
		r.put(x.value)
	case op.Dup:
		r.put(in[0], in[0])
	case op.Swap:
		r.put(in[1], in[0])
	case op.Over:
		r.put(in[0], in[1], in[0])
	case op.Get:
		r.put(r.slots[x.a])
	case op.Set:
		r.slots[x.a] = in[0]
	case op.Div, op.Rem:
		if in[1].n == 0 {
			return api.ErrZero
		}
		fallthrough
	case op.Add, op.Sub, op.Mul, op.Neg, op.And, op.Or, op.Xor, op.Inv, op.Shl, op.Shr, op.Both, op.Either, op.Not:
		r.put(slot{n: number(x.op, in[0].n, in[len(in)-1].n)})
	case op.Eq, op.Ne, op.Lt, op.Le, op.Gt, op.Ge, op.Same, op.Less:
		r.put(truth(holds(x.op, in[0], in[1])))
	case op.Load:
		r.putFound(r.tx.Load(in[0].b))
	case op.Next:
		r.putFound(r.tx.Next(in[0].b))
	case op.Has:
		_, ok := r.tx.Load(in[0].b)
		r.put(truth(ok))
	case op.Save:
		return r.tx.Save(in[0].b, in[1].b)
	case op.Wipe:
		return r.tx.Wipe(in[0].b)
	case op.Emit:
		return r.emit(in[0].b)
	case op.Abort:
		return api.ErrAbort
	case op.Loops:
		r.left = append(r.left, x.a)
	case op.End:
		r.at = x.to[r.round()]
	case op.Leave:
		r.left = r.left[:len(r.left)-in[0].n] // one less, if it leaves
		fallthrough
	case op.If:
		r.at = x.to[in[0].n]
	case op.Call:
		r.call(r.routines[x.a], in)
	case back:
		r.leave()
	case op.Drop, op.Else: // all is done by what was taken, and where they lead
	default:
		v, e := ofBytes(x.op, in)
		r.put(v)
		return e
	}
	return api.OK
}

func (r *run) emit(text string) api.Errno {
	if len(r.emits) >= api.MaxEmits {
		return api.ErrEmit
	}
	r.emits = append(r.emits, text)
	return api.OK
}

// round answers 1 if the innermost loop goes round once more; else 0, and it is
// open no more.
func (r *run) round() int {
	last := len(r.left) - 1
	r.left[last]--
	if r.left[last] > 0 {
		return 1
	}
	r.left = r.left[:last]
	return 0
}

// call is asked where the run is at what is to be done behind the call.
func (r *run) call(f routine, args []slot) {
	r.below = append(r.below, r.frame)
	r.frame = cut(r.rest, f, r.at)
	r.fill(args)
	r.at = f.start
}

// leave ends the frame's function: what stands on its stack are its results.
func (r *run) leave() {
	results, last := r.stack, len(r.below)-1
	r.at = r.caller
	r.frame, r.below = r.below[last], r.below[:last]
	r.put(results...)
}
