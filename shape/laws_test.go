package shape_test

import (
	"math/rand"
	"slices"
	"testing"

	"weighhouse/api"
	"weighhouse/op"
	"weighhouse/shape"
)

// allShort hands all instructions of up to size of blockOps to visit.
func allShort(size int, visit func(c []api.Instr)) {
	var grow func(c []api.Instr)
	grow = func(c []api.Instr) {
		visit(c)
		if len(c) == size {
			return
		}
		for _, o := range blockOps() {
			grow(append(slices.Clone(c), api.Instr{Op: o}))
		}
	}
	grow(nil)
}

// blockOps are the operations of blocks, and a plain one.
func blockOps() []int {
	return []int{op.If, op.Else, op.End, op.Loops, op.Leave, op.True}
}

// someLong hands longer instructions to visit, most of which are of good shape,
// with all depths; and behind each the same with one that is another.
func someLong(visit func(c []api.Instr)) {
	const most = 80
	r := rand.New(rand.NewSource(6))
	for range 3000 {
		c := grown(r, r.Intn(api.MaxBlocks+2), false)
		if len(c) > most {
			continue
		}
		visit(c)
		other := slices.Clone(c)
		other[r.Intn(len(c))].Op = blockOps()[r.Intn(len(blockOps()))]
		visit(other)
	}
}

// grown answers instructions with at most so many blocks open.
func grown(r *rand.Rand, depth int, inLoop bool) []api.Instr {
	var c []api.Instr
	for range 1 + r.Intn(2) {
		switch k := r.Intn(6); {
		case depth == 0 || k == 0:
			c = append(c, api.Instr{Op: op.True})
		case inLoop && k == 1:
			c = append(c, api.Instr{Op: op.Leave})
		case k < 4:
			c = append(c, api.Instr{Op: op.If})
			c = append(c, grown(r, depth-1, inLoop)...)
			if k == 2 {
				c = append(c, api.Instr{Op: op.Else})
				c = append(c, grown(r, depth-1, inLoop)...)
			}
			c = append(c, api.Instr{Op: op.End})
		default:
			c = append(c, api.Instr{Op: op.Loops, A: r.Intn(9)})
			c = append(c, grown(r, depth-1, true)...)
			c = append(c, api.Instr{Op: op.End})
		}
	}
	return c
}

// handAround answers the openers ahead of at that no end ahead of it closes,
// going back from there.
func handAround(c []api.Instr, at int) []int {
	var l []int
	closed := 0
	for i := at - 1; i >= 0; i-- {
		switch c[i].Op {
		case op.End:
			closed++
		case op.If, op.Loops:
			if closed == 0 {
				l = append(l, i)
			}
			closed = max(closed-1, 0)
		}
	}
	slices.Reverse(l)
	return l
}

// handEnd answers the end of the block that the place start opened; -1, if
// there is none.
func handEnd(c []api.Instr, start int) int {
	open := 0
	for i := start; i < len(c); i++ {
		switch c[i].Op {
		case op.If, op.Loops:
			open++
		case op.End:
			if open--; open == 0 {
				return i
			}
		}
	}
	return -1
}

// handElse answers the elses of the block that the place start opened.
func handElse(c []api.Instr, start int) []int {
	var l []int
	for i := start; i < handEnd(c, start); i++ {
		if a := handAround(c, i); c[i].Op == op.Else && len(a) > 0 && a[len(a)-1] == start {
			l = append(l, i)
		}
	}
	return l
}

// handLoop answers the innermost loop around at; -1, if there is none.
func handLoop(c []api.Instr, at int) int {
	for _, i := range slices.Backward(handAround(c, at)) {
		if c[i].Op == op.Loops {
			return i
		}
	}
	return -1
}

func handGood(c []api.Instr) bool {
	for at, x := range c {
		a := handAround(c, at)
		good := len(a) <= api.MaxBlocks
		switch x.Op {
		case op.If:
			good = good && handEnd(c, at) >= 0 && len(handElse(c, at)) <= 1
		case op.Loops:
			good = good && handEnd(c, at) >= 0
		case op.Else:
			good = good && len(a) > 0 && c[a[len(a)-1]].Op == op.If
		case op.End:
			good = good && len(a) > 0
		case op.Leave:
			good = good && handLoop(c, at) >= 0
		}
		if !good {
			return false
		}
	}
	return true
}

// handMatch is asked of good shape alone.
func handMatch(c []api.Instr, at int) int {
	a := handAround(c, at)
	switch c[at].Op {
	case op.If:
		if l := handElse(c, at); len(l) > 0 {
			return l[0]
		}
		return handEnd(c, at)
	case op.Loops:
		return handEnd(c, at)
	case op.Else:
		return handEnd(c, a[len(a)-1])
	case op.End:
		return a[len(a)-1]
	case op.Leave:
		return handEnd(c, handLoop(c, at))
	}
	return -1
}

// TestP602ByHand holds all calls to the chapter's words, asked of each place by
// itself.
func TestP602ByHand(t *testing.T) {
	good := 0
	look := func(c []api.Instr) {
		if !handGood(c) {
			wantBad(t, c)
			return
		}
		good++
		var match []int
		depth := 0
		for at := range c {
			match = append(match, handMatch(c, at))
			a := handAround(c, at)
			depth = max(depth, len(a))
			wantAround(t, c, at, a...)
		}
		wantMatch(t, c, match...)
		wantDepth(t, c, depth)
	}
	allShort(7, look)
	someLong(look)
	if good < 2000 {
		t.Error("only", good, "were of good shape")
	}
}

// withoutLeaves answers c with other instructions in place of its leaves.
func withoutLeaves(c []api.Instr) []api.Instr {
	l := slices.Clone(c)
	for i, x := range l {
		if x.Op == op.Leave {
			l[i].Op = op.Drop
		}
	}
	return l
}

// span is a block, or a part of one: the places at its sides.
type span struct {
	from, to int
}

// blocksOf answers the blocks of c, by its ends' matches.
func blocksOf(c []api.Instr, m []int) []span {
	var l []span
	for at, x := range c {
		if x.Op == op.End {
			l = append(l, span{m[at], at})
		}
	}
	return l
}

// partsOf answers what a block is parted into by its else, or itself, if it has
// none.
func partsOf(m []int, b span) []span {
	if half := m[b.from]; half != b.to {
		return []span{{b.from, half}, {half, b.to}}
	}
	return []span{b}
}

func wantPairs(t *testing.T, c []api.Instr, m []int) {
	t.Helper()
	for _, b := range blocksOf(c, m) {
		if b.from < 0 || b.from >= b.to || c[b.from].Op != op.If && c[b.from].Op != op.Loops {
			t.Fatalf("%v: the end at %d closes %d", c, b.to, b.from)
		}
		for _, p := range partsOf(m, b) {
			if m[p.from] != p.to {
				t.Errorf("%v: the part from %d leads to %d, not %d", c, p.from, m[p.from], p.to)
			}
			within := withoutLeaves(c[p.from+1 : p.to])
			if _, err := shape.Match(within); err != api.OK {
				t.Errorf("%v: what stands from %d to %d: error %d", c, p.from, p.to, err)
			}
		}
	}
}

func TestP604Pairs(t *testing.T) {
	look := func(c []api.Instr) {
		if m, err := shape.Match(c); err == api.OK {
			wantPairs(t, c, m)
		}
	}
	allShort(6, look)
	someLong(look)
}

func wantNested(t *testing.T, c []api.Instr, m []int) {
	t.Helper()
	l := blocksOf(c, m)
	for i, a := range l {
		for _, b := range l[i+1:] {
			within := a.from < b.from && b.to < a.to || b.from < a.from && a.to < b.to
			apart := a.to < b.from || b.to < a.from
			if within == apart {
				t.Errorf("%v: blocks %v and %v", c, a, b)
			}
		}
	}
}

func TestP605Nesting(t *testing.T) {
	look := func(c []api.Instr) {
		m, err := shape.Match(c)
		if err != api.OK {
			return
		}
		wantNested(t, c, m)
		// each block that is around a place has that place within it
		for at := range c {
			for _, start := range shape.Around(c, at) {
				if !slices.ContainsFunc(blocksOf(c, m), func(b span) bool { return b.from == start && start < at && at <= b.to }) {
					t.Errorf("%v: %d is not within the block of %d", c, at, start)
				}
			}
		}
	}
	allShort(6, look)
	someLong(look)
}
