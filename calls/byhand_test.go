package calls_test

import (
	"math/rand"
	"slices"
	"testing"

	"weighhouse/api"
	"weighhouse/calls"
	"weighhouse/op"
)

// A table of calls is held by hand: row f has the bit g if f calls g. What is
// told of it here is found in other ways than by going from call to call.
type table []int

func (m table) calls(f, g int) bool { return m[f]>>g&1 == 1 }

func (m table) row(f int) []int {
	var l []int
	for g := range m {
		if m.calls(f, g) {
			l = append(l, g)
		}
	}
	return l
}

// closed answers the table of what is reached by one call or more: each
// function in turn is let stand between two others.
func (m table) closed() table {
	r := slices.Clone(m)
	for between := range r {
		for f := range r {
			if r.calls(f, between) {
				r[f] |= r[between]
			}
		}
	}
	return r
}

func (m table) round() bool {
	r := m.closed()
	for f := range r {
		if r.calls(f, f) {
			return true
		}
	}
	return false
}

// depths answers how long the longest chains are: those of n functions begin
// where one calls what begins a chain of n-1.
func (m table) depths() []int {
	deep := make([]int, len(m))
	begins := 1<<len(m) - 1
	for n := 1; begins != 0; n++ {
		longer := 0
		for f := range m {
			if begins>>f&1 == 1 {
				deep[f] = n
			}
			if m[f]&begins != 0 {
				longer |= 1 << f
			}
		}
		begins = longer
	}
	return deep
}

// lines goes through all orders of so many functions as a lexicon has them.
func lines(n int, each func([]int) bool) {
	var l []int
	var more func(used int) bool
	more = func(used int) bool {
		if len(l) == n {
			return each(l)
		}
		for f := range n {
			if used>>f&1 == 0 {
				l = append(l, f)
				if !more(used | 1<<f) {
					return false
				}
				l = l[:len(l)-1]
			}
		}
		return true
	}
	more(0)
}

// stands answers whether each function of a line stands behind those it calls.
func (m table) stands(l []int) bool {
	told := 0
	for _, f := range l {
		if m[f]&^told != 0 {
			return false
		}
		told |= 1 << f
	}
	return true
}

// firstLine answers the first line of the lexicon's in which all stand behind
// those that they call: taking the least one each time comes to it.
func (m table) firstLine() (first []int) {
	lines(len(m), func(l []int) bool {
		if m.stands(l) {
			first = slices.Clone(l)
		}
		return first == nil
	})
	return first
}

// script answers one with the calls of the table: in falling order, some of them
// twice, with other instructions between.
func (m table) script() api.Script {
	var s api.Script
	for f := range m {
		var c []api.Instr
		for _, g := range slices.Backward(m.row(f)) {
			c = append(c, api.Instr{Op: op.Call, A: g}, api.Instr{Op: op.PushInt, A: f})
			if (f+g)%2 == 0 {
				c = append(c, api.Instr{Op: op.Call, A: g})
			}
		}
		s.Funcs = append(s.Funcs, api.Func{Code: c})
	}
	return s
}

// holdAgainst asks all calls of a table's script. The line is given by whoever
// knows a way to find it.
func holdAgainst(t *testing.T, m table, line func() []int) {
	t.Helper()
	s := m.script()
	g, e := calls.Graph(s)
	if e != api.OK || len(g) != len(m) {
		t.Fatalf("%b: Graph %v, error %d", m, g, e)
	}
	r := m.closed()
	for f := range m {
		if !slices.Equal(g[f], m.row(f)) {
			t.Fatalf("%b: Graph %v", m, g)
		}
		r[f] |= 1 << f
		if l := calls.Reach(s, f); !slices.Equal(l, r.row(f)) {
			t.Fatalf("%b: Reach of %d: %v, want %v", m, f, l, r.row(f))
		}
	}
	if m.round() {
		wantRound(t, s)
		return
	}
	wantOrder(t, s, line()...)
	wantDeep(t, s, m.depths()...)
	holdPromises(t, m, s)
}

// holdPromises looks at P803 and P804 as they are worded.
func holdPromises(t *testing.T, m table, s api.Script) {
	t.Helper()
	order, _ := calls.Order(s)
	deep, _ := calls.Deep(s)
	if sorted := slices.Sorted(slices.Values(order)); !slices.Equal(sorted, upTo(0, len(m))) || len(deep) != len(m) {
		t.Fatalf("%b: Order %v, Deep %v", m, order, deep)
	}
	for f := range m {
		deepest := 0
		for _, callee := range m.row(f) {
			if slices.Index(order, f) < slices.Index(order, callee) {
				t.Fatalf("P803: %b: Order %v: %d stands ahead of %d", m, order, f, callee)
			}
			deepest = max(deepest, deep[callee])
		}
		if deep[f] != deepest+1 {
			t.Fatalf("P804: %b: Deep %v: %d is not deeper by one than the deepest it calls", m, deep, f)
		}
	}
}

// TestP803P804AllSmall: all tables of calls of up to three functions, and of
// four all in which none calls itself.
func TestP803P804AllSmall(t *testing.T) {
	for n := 1; n <= 3; n++ {
		for bits := range 1 << (n * n) {
			var m table
			for f := range n {
				m = append(m, bits>>(f*n)&(1<<n-1))
			}
			holdAgainst(t, m, m.firstLine)
		}
	}
	for bits := range 1 << 12 {
		m := make(table, 4)
		for f := range m {
			row := bits >> (f * 3) & 7
			m[f] = row&(1<<f-1) | row>>f<<(f+1) // the own bit is left out
		}
		holdAgainst(t, m, m.firstLine)
	}
}

// randomStraight answers a table without rounds: functions call only those that
// stand ahead of them in some line.
func randomStraight(r *rand.Rand, n, often int) table {
	m := make(table, n)
	l := r.Perm(n)
	for at, f := range l {
		for _, g := range l[:at] {
			if r.Intn(10) < often {
				m[f] |= 1 << g
			}
		}
	}
	return m
}

func TestP803P804Middle(t *testing.T) {
	r := rand.New(rand.NewSource(8))
	for range 1500 {
		m := randomStraight(r, 5+r.Intn(2), 1+r.Intn(9))
		holdAgainst(t, m, m.firstLine)
	}
}

// leastEachTime answers the line by the words of P802; it is for tables that
// have too many lines to go through them.
func (m table) leastEachTime() []int {
	var l []int
	for told := 0; len(l) < len(m); {
		for f := range m {
			if told>>f&1 == 0 && m[f]&^told == 0 {
				l = append(l, f)
				told |= 1 << f
				break
			}
		}
	}
	return l
}

func TestP803P804Large(t *testing.T) {
	r := rand.New(rand.NewSource(88))
	for range 2000 {
		m := randomStraight(r, 1+r.Intn(api.MaxFuncs), r.Intn(10))
		holdAgainst(t, m, m.leastEachTime)
	}
}

// TestP802LargeRound: a table without rounds, and one call more, which often
// makes one.
func TestP802LargeRound(t *testing.T) {
	r := rand.New(rand.NewSource(888))
	round := 0
	for range 2000 {
		m := randomStraight(r, 2+r.Intn(api.MaxFuncs-1), 1+r.Intn(4))
		m[r.Intn(len(m))] |= 1 << r.Intn(len(m))
		holdAgainst(t, m, m.leastEachTime)
		if m.round() {
			round++
		}
	}
	if round < 200 || round > 1800 {
		t.Errorf("%d of 2000 go round: the tables are too much alike", round)
	}
}
