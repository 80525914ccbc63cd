package fast

import (
	"weighhouse/api"
	"weighhouse/code"
	"weighhouse/op"
	"weighhouse/shape"
	"weighhouse/verify"
)

// back is an operation of the row's own, behind each function's last
// instruction: the function ends. It costs nothing.
const back = 0

// instr is an instruction of the row, with all that can be told ahead of a run:
// its cost, how many values it takes, the value that it puts if that is always
// the same one, and the places in the row where it leads, by whether its truth
// is 0 or 1. What knows but one way goes by 0.
type instr struct {
	op, a, cost, takes int
	value              slot
	to                 [2]int
}

// routine is a function: its first instruction's place in the row, how many
// slots it has, and how many values stand on its stack at most.
type routine struct {
	start, slots, stack int
}

// programOf takes what verify answers.
func programOf(r verify.Report, e api.Errno) (*Program, api.Errno) {
	if e != api.OK {
		return nil, e
	}
	p := &Program{script: r.Script, bound: r.Gas, room: r.Rooms[0]}
	for i, f := range r.Script.Funcs {
		p.routines = append(p.routines, routine{len(p.row), len(code.Slots(f)), r.Stacks[i]})
		p.addCode(f.Code)
	}
	return p, api.OK
}

// addCode puts a function's instructions at the row's end. They are of good
// shape, as all that is verified: there is no error to be told.
func (p *Program) addCode(c []api.Instr) {
	start := len(p.row)
	match, _ := shape.Match(c)
	for at, x := range c {
		p.row = append(p.row, instr{
			op:    rowOp(c, match, at),
			a:     x.A,
			cost:  op.Cost(x.Op),
			takes: p.takes(x),
			value: p.constant(x),
			to:    [2]int{start + shape.Next(c, match, at, false), start + shape.Next(c, match, at, true)},
		})
	}
	p.row = append(p.row, instr{op: back})
}

// rowOp tells the two kinds of ends apart: that of an if does no more than an
// else does.
func rowOp(c []api.Instr, match []int, at int) int {
	if n := c[at].Op; n != op.End || c[match[at]].Op == op.Loops {
		return n
	}
	return op.Else
}

func (p *Program) takes(x api.Instr) int {
	if x.Op == op.Call {
		return len(p.script.Funcs[x.A].Params)
	}
	return len(op.In(x.Op))
}

func (p *Program) constant(x api.Instr) slot {
	switch x.Op {
	case op.PushInt:
		return slot{n: x.A}
	case op.PushConst:
		return slot{b: p.script.Consts[x.A]}
	}
	return truth(x.Op == op.True)
}
