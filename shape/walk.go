package shape

import (
	"weighhouse/api"
	"weighhouse/op"
)

// block is one that is open: the place of what opened it, that of its else, or
// nowhere, and whether it is a loop.
type block struct {
	start, other int
	loop         bool
}

// walk visits each place of c with the blocks that are open ahead of its
// instruction, and answers whether c is of good shape. It stops ahead of the
// first instruction that may not stand where it does, so that a visit finds
// the blocks that its instruction needs.
func walk(c []api.Instr, visit func(at int, open *stack[block])) bool {
	open := &stack[block]{}
	for at, x := range c {
		if !mayStand(x.Op, open) {
			return false
		}
		visit(at, open)
		step(x.Op, at, open)
	}
	return open.size() == 0
}

// mayStand answers whether the operation n may stand where these blocks are
// open.
func mayStand(n int, open *stack[block]) bool {
	switch n {
	case op.If, op.Loops:
		return open.size() < api.MaxBlocks
	case op.Else:
		b := open.top()
		return b != nil && !b.loop && b.other == nowhere
	case op.End:
		return open.size() > 0
	case op.Leave:
		return innermostLoop(open) != nil
	}
	return true
}

// step does to the open blocks what the operation n at at does, which may
// stand there.
func step(n, at int, open *stack[block]) {
	switch n {
	case op.If, op.Loops:
		open.push(block{start: at, other: nowhere, loop: n == op.Loops})
	case op.Else:
		open.top().other = at
	case op.End:
		open.drop()
	}
}

// innermostLoop answers nil if no loop is open.
func innermostLoop(open *stack[block]) *block {
	return open.first(func(b block) bool { return b.loop })
}
