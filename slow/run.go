package slow

import (
	"weighhouse/api"
	"weighhouse/op"
	"weighhouse/store"
	"weighhouse/value"
)

// run is a run of a script that may be, of good shape. What goes wrong is a
// panic with an Errno, from wherever it is seen.
type run struct {
	frames
	tx         *store.Tx
	consts     []string
	routines   []*routine
	limit, gas int
	out        []api.Value
	emits      []string
}

func (r *run) result() Result {
	if e := r.steps(); e != api.OK {
		return Result{Gas: r.gas, E: e}
	}
	return Result{Out: r.out, Emits: r.emits, Gas: r.gas}
}

// steps does all steps, and answers what went wrong. A panic with anything but
// an Errno is none of the run's, and goes on.
func (r *run) steps() (e api.Errno) {
	defer func() {
		if wrong := recover(); wrong != nil {
			e = wrong.(api.Errno)
		}
	}()
	for r.depth() > 0 {
		r.step()
	}
	return api.OK
}

func must(e api.Errno) {
	if e != api.OK {
		panic(e)
	}
}

func (r *run) step() {
	f := r.top()
	if f.ended() {
		r.end()
		return
	}
	x := f.Code[f.at]
	r.pay(op.Cost(x.Op))
	f.goOn(r.do(f, x))
	// the frame that did the step is asked, not one that it called: and a
	// frame that a called one gave its results to is asked at its own next step
	if len(f.stack) > api.MaxStack {
		panic(api.ErrStack)
	}
}

// end hands what the top frame leaves to the one below, or out of the run.
func (r *run) end() {
	l := r.leave().results()
	if f := r.top(); f != nil {
		f.put(l...)
	} else {
		r.out = l
	}
}

func (r *run) pay(cost int) {
	r.gas += cost
	if r.gas > r.limit {
		r.gas = r.limit
		panic(api.ErrGas)
	}
}

// do does an instruction, and answers the way that it leads, where there are
// two.
func (r *run) do(f *frame, x api.Instr) (yes bool) {
	in := f.take(op.In(x.Op)...)
	switch x.Op {
	case op.PushInt:
		f.put(value.Number(x.A))
	case op.PushConst:
		f.put(value.Text(r.consts[x.A]))
	case op.Drop, op.Else:
	case op.Dup:
		f.put(in[0], in[0])
	case op.Swap:
		f.put(in[1], in[0])
	case op.Over:
		f.put(in[0], in[1], in[0])
	case op.Get:
		f.put(f.slots[x.A])
	case op.Set:
		f.set(x.A, in[0])
	case op.Load, op.Has, op.Save, op.Wipe, op.Next:
		r.reach(f, x.Op, in)
	case op.Emit:
		r.emit(in[0].B)
	case op.Abort:
		panic(api.ErrAbort)
	case op.If, op.Leave:
		return in[0] == value.Truth(true)
	case op.End:
		return f.round()
	case op.Loops:
		f.left[f.at] = x.A
	case op.Call:
		r.call(f, r.routines[x.A])
	default:
		l, e := op.Apply(x.Op, in...)
		must(e)
		f.put(l...)
	}
	return false
}

// reach does what the operation n does with the transaction.
func (r *run) reach(f *frame, n int, in []api.Value) {
	switch key := in[0].B; n {
	case op.Load:
		f.putFound(r.tx.Load(key))
	case op.Has:
		_, ok := r.tx.Load(key)
		f.put(value.Truth(ok))
	case op.Save:
		must(r.tx.Save(key, in[1].B))
	case op.Wipe:
		must(r.tx.Wipe(key))
	case op.Next:
		f.putFound(r.tx.Next(key))
	}
}

func (r *run) emit(text string) {
	if len(r.emits) >= api.MaxEmits {
		panic(api.ErrEmit)
	}
	r.emits = append(r.emits, text)
}

func (r *run) call(f *frame, callee *routine) {
	if r.depth() >= api.MaxFuncs {
		panic(api.ErrCall)
	}
	r.enter(newFrame(callee, f.take(callee.Params...)))
}
