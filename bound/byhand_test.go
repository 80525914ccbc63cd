package bound_test

import (
	"math"
	"math/big"
	"math/rand"
	"slices"
	"testing"

	"weighhouse/api"
	"weighhouse/bound"
	"weighhouse/op"
	"weighhouse/shape"
)

// part is an instruction, or a block with what stands within it.
type part struct {
	api.Instr
	within, other []part // other: behind an else
	parted        bool   // whether there is an else
}

// grow answers some parts, with at most so many blocks open.
func grow(r *rand.Rand, depth int, rounds, callees []int) []part {
	var l []part
	for range r.Intn(4) {
		var p part
		switch k := r.Intn(7); {
		case k == 0 && len(callees) > 0:
			p.Instr = api.Instr{Op: op.Call, A: r.Intn(len(callees))}
		case depth == 0 || k < 4:
			p.Op = plain()[r.Intn(len(plain()))]
		case k < 6:
			p.Op, p.parted = op.If, k == 4
			p.within = grow(r, depth-1, rounds, callees)
			if p.parted {
				p.other = grow(r, depth-1, rounds, callees)
			}
		default:
			p.Instr = api.Instr{Op: op.Loops, A: rounds[r.Intn(len(rounds))]}
			p.within = grow(r, depth-1, rounds, callees)
			if r.Intn(2) == 0 {
				p.within = append(p.within, part{Instr: api.Instr{Op: op.Leave}})
			}
		}
		l = append(l, p)
	}
	return l
}

// written answers the instructions of parts.
func written(l []part) []api.Instr {
	var c []api.Instr
	for _, p := range l {
		c = append(c, p.Instr)
		if p.Op != op.If && p.Op != op.Loops {
			continue
		}
		c = append(c, written(p.within)...)
		if p.parted {
			c = append(c, api.Instr{Op: op.Else})
			c = append(c, written(p.other)...)
		}
		c = append(c, api.Instr{Op: op.End})
	}
	return c
}

// whole answers the bound of parts as it truly is: never cut, however great.
func whole(l []part, callees []*big.Int) *big.Int {
	sum := new(big.Int)
	closed := func(within []part, closer int) *big.Int {
		n := whole(within, callees)
		return n.Add(n, big.NewInt(int64(cost(closer))))
	}
	for _, p := range l {
		sum.Add(sum, big.NewInt(int64(cost(p.Op))))
		switch p.Op {
		case op.Call:
			sum.Add(sum, callees[p.A])
		case op.Loops:
			round := closed(p.within, op.End)
			sum.Add(sum, round.Mul(round, big.NewInt(int64(p.A))))
		case op.If:
			if !p.parted {
				sum.Add(sum, closed(p.within, op.End))
				continue
			}
			yes, no := closed(p.within, op.Else), closed(p.other, op.End)
			if yes.Cmp(no) < 0 {
				yes = no
			}
			sum.Add(sum, yes)
		}
	}
	return sum
}

// cut answers what a bound counts as.
func cut(n *big.Int) int {
	if n.Cmp(big.NewInt(api.MaxGas)) > 0 {
		return tooMuch
	}
	return int(n.Int64())
}

func bigs(l []int) []*big.Int {
	var out []*big.Int
	for _, n := range l {
		out = append(out, big.NewInt(int64(n)))
	}
	return out
}

// kinds are numbers of rounds and bounds of callees: small ones, and such that
// gas is often cut.
var kinds = []struct{ rounds, callees []int }{
	{[]int{1, 2, 3}, nil},
	{[]int{0, 1, 2, 3, 10, 64}, []int{0, 7, 100}},
	{[]int{0, 1, 64, 65, 1000}, []int{5, 1000, 60000}},
	{[]int{0, 1, 2, 1 << 10, 1 << 20, 1 << 40}, []int{0, 3, api.MaxGas / 2, api.MaxGas, tooMuch}},
	{[]int{0, 1, 1 << 32, 1 << 62, math.MaxInt}, []int{0, 1 << 32, 1 << 62, math.MaxInt - 1, math.MaxInt}},
}

// someParts hands many parts, with bounds of callees, to visit, till one fails.
func someParts(t *testing.T, seed int64, often int, visit func(r *rand.Rand, l []part, callees []int)) {
	r := rand.New(rand.NewSource(seed))
	for _, k := range kinds {
		for range often {
			if t.Failed() {
				return
			}
			visit(r, grow(r, r.Intn(api.MaxBlocks+1), k.rounds, k.callees), k.callees)
		}
	}
}

func TestP902AsItTrulyIs(t *testing.T) {
	cuts, all := 0, 0
	someParts(t, 9, 4000, func(_ *rand.Rand, l []part, callees []int) {
		want := cut(whole(l, bigs(callees)))
		wantPart(t, written(l), want, callees...)
		all++
		if want == tooMuch {
			cuts++
		}
	})
	if cuts < all/20 || cuts > all*19/20 {
		t.Errorf("%d of %d are cut: the parts are too much alike", cuts, all)
	}
}

// rounds are those that are left to loops, by the place of what opened them.
type rounds [8]int

// mostGas goes all ways through instructions from a place on, and answers the
// gas of the one that takes most.
func mostGas(c []api.Instr, m []int, at int, left rounds) int {
	if at == len(c) {
		return 0
	}
	on := func(yes bool) int { return mostGas(c, m, shape.Next(c, m, at, yes), left) }
	gas := cost(c[at].Op)
	switch c[at].Op {
	case op.If, op.Leave:
		return gas + max(on(true), on(false))
	case op.Loops:
		left[at] = c[at].A
	case op.End:
		left[m[at]]--
		return gas + on(c[m[at]].Op == op.Loops && left[m[at]] > 0)
	}
	return gas + on(false)
}

// TestP902AllWays: the bound is what the way takes that takes most, of all
// instructions of up to 7 of those of blocks and two others.
func TestP902AllWays(t *testing.T) {
	some := []api.Instr{{Op: op.If}, {Op: op.Else}, {Op: op.End}, {Op: op.Loops, A: 3}, {Op: op.Leave}, {Op: op.True}, {Op: op.Mul}}
	good := 0
	var grow func(c []api.Instr)
	grow = func(c []api.Instr) {
		if t.Failed() {
			return
		}
		m, e := shape.Match(c)
		if e == api.OK {
			good++
			wantPart(t, c, mostGas(c, m, 0, rounds{}))
		} else {
			wantBad(t, c, api.ErrShape)
		}
		if len(c) == 7 {
			return
		}
		for _, x := range some {
			grow(append(slices.Clone(c), x))
		}
	}
	grow(nil)
	if good < 2000 {
		t.Error("only", good, "were of good shape")
	}
}

// with answers c with x at a place.
func with(c []api.Instr, at int, x api.Instr) []api.Instr {
	return slices.Insert(slices.Clone(c), at, x)
}

func sumCut(l ...int) int {
	sum := new(big.Int)
	for _, n := range l {
		sum.Add(sum, big.NewInt(int64(n)))
	}
	return cut(sum)
}

// surrounded answers whether a place of c, of good shape, is within a loop, and
// whether within an if that has an else.
func surrounded(c []api.Instr, at int) (loop, parted bool) {
	m, _ := shape.Match(c)
	for _, start := range shape.Around(c, at) {
		loop = loop || c[start].Op == op.Loops
		parted = parted || c[start].Op == op.If && c[m[start]].Op == op.Else
	}
	return loop, parted
}

// wantMore holds the bound of c with x at a place to P903.
func wantMore(t *testing.T, c []api.Instr, at int, x api.Instr, callees []int) {
	t.Helper()
	more := with(c, at, x)
	loop, parted := surrounded(more, at)
	if x.Op == op.Leave && !loop {
		wantBad(t, more, api.ErrShape, callees...)
		return
	}
	was, _ := bound.Part(c, callees)
	is, e := bound.Part(more, callees)
	costs := cost(x.Op)
	if x.Op == op.Call {
		costs = sumCut(costs, callees[x.A])
	}
	switch {
	case e != api.OK || is < was:
		t.Errorf("%v with %v at %d: %d, error %d, and %d without", c, x, at, is, e, was)
	case !loop && is > sumCut(was, costs):
		t.Errorf("%v with %v at %d: %d, and %d without: more by too much", c, x, at, is, was)
	case !loop && !parted && is != sumCut(was, costs):
		t.Errorf("%v with %v at %d: %d, and %d without", c, x, at, is, was)
	}
}

func TestP903OneMore(t *testing.T) {
	someParts(t, 93, 150, func(r *rand.Rand, l []part, callees []int) {
		c := written(l)
		if len(c) > 150 {
			return
		}
		for at := range len(c) + 1 {
			wantMore(t, c, at, api.Instr{Op: op.True}, callees)
			wantMore(t, c, at, api.Instr{Op: plain()[r.Intn(len(plain()))]}, callees)
			wantMore(t, c, at, api.Instr{Op: op.Leave}, callees)
			for f := range callees {
				wantMore(t, c, at, api.Instr{Op: op.Call, A: f}, callees)
			}
		}
	})
}

// TestP903EachOperation: each one at each place, and what it is more by.
func TestP903EachOperation(t *testing.T) {
	// an if whose greater part stands behind the else, and loops
	c := read(t, "mul / if / mul / end / if / true / else / join / save / end / loop 3 / has / loop 5 / end / end / loop 0 / end / div")
	times := []int{1, 1, 1, 1, 1, 0, 0, 1, 1, 1, 1, 3, 3, 15, 3, 1, 0, 1, 1}
	was, _ := bound.Part(c, nil)
	if len(times) != len(c)+1 {
		t.Fatal(len(c), "instructions")
	}
	for _, o := range plain() {
		for at, n := range times {
			wantPart(t, with(c, at, api.Instr{Op: o}), was+n*cost(o))
		}
	}
}

// TestP903Cut: where a bound is next to too much, one more comes to it, and no
// farther.
func TestP903Cut(t *testing.T) {
	for _, c := range [][]api.Instr{trues(api.MaxGas - 1), append(read(t, "loop 1048565 / end"), trues(8)...)} {
		wantPart(t, c, api.MaxGas-1)
		for _, at := range []int{0, len(c)} {
			wantPart(t, with(c, at, api.Instr{Op: op.True}), api.MaxGas)
			wantPart(t, with(c, at, api.Instr{Op: op.Mul}), tooMuch)
			wantPart(t, with(c, at, api.Instr{Op: op.Save}), tooMuch)
			wantPart(t, with(with(c, at, api.Instr{Op: op.Save}), at, api.Instr{Op: op.True}), tooMuch)
		}
	}
	wantPart(t, read(t, "loop 1048565 / true / end"), tooMuch)
	wantPart(t, read(t, "loop 524287 / true / end"), api.MaxGas)
	wantPart(t, read(t, "loop 524287 / true / true / end"), tooMuch)
}

// wantTogether holds the bound of lists, one behind the other, to P904.
func wantTogether(t *testing.T, callees []int, lists ...[]api.Instr) {
	t.Helper()
	var bounds []int
	for _, c := range lists {
		n, e := bound.Part(c, callees)
		if e != api.OK {
			t.Errorf("Part(%v, %v): error %d", short(c), callees, e)
		}
		bounds = append(bounds, n)
	}
	wantPart(t, slices.Concat(lists...), sumCut(bounds...), callees...)
}

func TestP904Together(t *testing.T) {
	r := rand.New(rand.NewSource(94))
	for _, k := range kinds {
		for range 1500 {
			var lists [][]api.Instr
			for range 2 + r.Intn(3) {
				lists = append(lists, written(grow(r, r.Intn(4), k.rounds, k.callees)))
			}
			wantTogether(t, k.callees, lists[:2]...)
			wantTogether(t, k.callees, lists...)
			wantTogether(t, k.callees, lists[0], lists[0])
			wantTogether(t, k.callees, lists[0], nil)
			wantTogether(t, k.callees, nil, lists[0])
		}
	}
}

func TestP904TextsTogether(t *testing.T) {
	for a, n := range blocks {
		for b, m := range blocks {
			wantPart(t, append(read(t, a), read(t, b)...), n+m)
		}
	}
}

func TestP904Cut(t *testing.T) {
	half := trues(api.MaxGas / 2)
	wantPart(t, append(half, half...), api.MaxGas)
	wantTogether(t, nil, half, half)
	wantTogether(t, nil, half, half, trues(1))
	wantTogether(t, nil, half, half, trues(2))
	loop, far := read(t, "loop 1048574 / end"), read(t, "loop 9223372036854775807 / end")
	wantTogether(t, nil, loop, nil)
	wantTogether(t, nil, loop, trues(1))
	wantTogether(t, nil, trues(1), loop)
	wantTogether(t, nil, loop, loop)
	wantTogether(t, nil, far, loop, far)
	wantTogether(t, []int{math.MaxInt}, read(t, "call 0"), far, read(t, "call 0"))
}

// straightScript answers a script whose functions call only those that stand
// ahead of them in some line, and of each its true bound.
func straightScript(r *rand.Rand) (api.Script, []int) {
	n := 1 + r.Intn(api.MaxFuncs)
	// a constant and slots: const, get and set have what their A tells
	s := api.Script{Consts: []string{"a"}, Funcs: slices.Repeat([]api.Func{{Locals: []int{api.Int}}}, n)}
	want := make([]int, n)
	var line []int
	var trueOnes []*big.Int
	for _, f := range r.Perm(n) {
		l := grow(r, r.Intn(api.MaxBlocks+1), []int{1, 3, api.MaxLoop, api.MaxLoop}, line)
		if len(written(l)) > api.MaxCode {
			l = nil
		}
		gas := whole(l, trueOnes)
		c := written(l)
		for i, x := range c {
			if x.Op == op.Call { // told by place in the line so far
				c[i].A = line[x.A]
			}
		}
		s.Funcs[f].Code, want[f] = c, cut(gas)
		line, trueOnes = append(line, f), append(trueOnes, gas)
	}
	return s, want
}

func TestP902ScriptsAsTheyTrulyAre(t *testing.T) {
	r := rand.New(rand.NewSource(902))
	above := 0
	for range 3000 {
		s, want := straightScript(r)
		if wantBounds(t, s, want...); t.Failed() {
			return
		}
		if slices.Contains(want, tooMuch) {
			above++
		}
	}
	if above < 100 || above > 2900 {
		t.Errorf("%d of 3000 are cut: the scripts are too much alike", above)
	}
}

// TestP902FuncsArePart: a function's bound is Part's of its Code, all bounds
// being its callees'.
func TestP902FuncsArePart(t *testing.T) {
	r := rand.New(rand.NewSource(29))
	for range 500 {
		s, _ := straightScript(r)
		l, e := bound.Funcs(s)
		if e != api.OK {
			t.Fatalf("%+v: error %d", s, e)
		}
		for f := range l {
			wantPart(t, s.Funcs[f].Code, l[f], l...)
		}
	}
}
