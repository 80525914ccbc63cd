package calls_test

import (
	"slices"
	"strconv"
	"strings"
	"testing"

	"weighhouse/api"
	"weighhouse/asm"
	"weighhouse/calls"
	"weighhouse/op"
)

// read answers the script of a text whose lines are parted by " / ".
func read(t *testing.T, text string) api.Script {
	t.Helper()
	s, bad := asm.Parse(strings.ReplaceAll(text, " / ", "\n") + "\n")
	if bad != 0 {
		t.Fatalf("%q: line %d", text, bad)
	}
	return s
}

// numbers answers the numbers of a text, parted by blanks.
func numbers(text string) []int {
	var l []int
	for _, word := range strings.Fields(text) {
		n, err := strconv.Atoi(word)
		if err != nil {
			panic(err)
		}
		l = append(l, n)
	}
	return l
}

// lists answers the lists of a text, parted by commas: of each function those
// that it calls.
func lists(text string) [][]int {
	var l [][]int
	for _, part := range strings.Split(text, ",") {
		l = append(l, numbers(part))
	}
	return l
}

// script answers one whose functions call those of the lists, one behind the
// other.
func script(g ...[]int) api.Script {
	var s api.Script
	for _, l := range g {
		var f api.Func
		for _, to := range l {
			f.Code = append(f.Code, api.Instr{Op: op.Call, A: to})
		}
		s.Funcs = append(s.Funcs, f)
	}
	return s
}

func wantGraph(t *testing.T, s api.Script, want ...[]int) {
	t.Helper()
	g, e := calls.Graph(s)
	if e != api.OK || !slices.EqualFunc(g, want, slices.Equal[[]int]) {
		t.Errorf("%q: Graph %v, error %d, want %v", asm.Print(s), g, e, want)
	}
}

func wantOrder(t *testing.T, s api.Script, want ...int) {
	t.Helper()
	if l, e := calls.Order(s); e != api.OK || !slices.Equal(l, want) {
		t.Errorf("%q: Order %v, error %d, want %v", asm.Print(s), l, e, want)
	}
}

func wantDeep(t *testing.T, s api.Script, want ...int) {
	t.Helper()
	if l, e := calls.Deep(s); e != api.OK || !slices.Equal(l, want) {
		t.Errorf("%q: Deep %v, error %d, want %v", asm.Print(s), l, e, want)
	}
}

// wantRound: neither an order nor depths, as calls go round.
func wantRound(t *testing.T, s api.Script) {
	t.Helper()
	if l, e := calls.Order(s); e != api.ErrCall || len(l) != 0 {
		t.Errorf("%q: Order %v, error %d", asm.Print(s), l, e)
	}
	if l, e := calls.Deep(s); e != api.ErrCall || len(l) != 0 {
		t.Errorf("%q: Deep %v, error %d", asm.Print(s), l, e)
	}
}

func wantReach(t *testing.T, s api.Script, f int, want ...int) {
	t.Helper()
	if l := calls.Reach(s, f); !slices.Equal(l, want) {
		t.Errorf("%q, %d: Reach %v, want %v", asm.Print(s), f, l, want)
	}
}

func TestP802Example(t *testing.T) {
	s := read(t, "func -> ; / call 1 / call 2 / func -> ; / call 2 / func -> ;")
	wantGraph(t, s, []int{1, 2}, []int{2}, nil)
	wantOrder(t, s, 2, 1, 0)
	wantDeep(t, s, 3, 2, 1)
	wantReach(t, s, 0, 0, 1, 2)
	wantReach(t, s, 1, 1, 2)
	wantReach(t, s, 2, 2)
}

// straightOnes are graphs without rounds: of each function what it calls, and
// what is to be told.
var straightOnes = []struct {
	what, graph, order, deep, reach string
}{
	{"one function", "", "0", "1", "0"},
	{"two, and no call", ",", "0 1", "1 1", "0,1"},
	{"two, and one call", "1,", "1 0", "2 1", "0 1,1"},
	{"two, and one call back", ",0", "0 1", "1 2", "0,0 1"},
	{"the same one twice", "1 1,", "1 0", "2 1", "0 1,1"},
	{"the same one often", "1 1 1 1 1,", "1 0", "2 1", "0 1,1"},
	{"the same one by several", "3,3,3,", "3 0 1 2", "2 2 2 1", "0 3,1 3,2 3,3"},
	{"none, one and several", "1 2 3,3,,", "2 3 1 0", "3 2 1 1", "0 1 2 3,1 3,2,3"},
	{"out of order", "3 1 2,,,", "1 2 3 0", "2 1 1 1", "0 1 2 3,1,2,3"},
	{"out of order, and twice", "3 1 3 2 1 2 3,,,", "1 2 3 0", "2 1 1 1", "0 1 2 3,1,2,3"},
	{"a chain", "1,2,3,", "3 2 1 0", "4 3 2 1", "0 1 2 3,1 2 3,2 3,3"},
	{"a chain back", ",0,1,2", "0 1 2 3", "1 2 3 4", "0,0 1,0 1 2,0 1 2 3"},
	{"a chain out of order", "2,,3,1", "1 3 2 0", "4 1 3 2", "0 1 2 3,1,1 2 3,1 3"},
	{"a tree", "1 2,3 4,5 6,,,,", "3 4 1 5 6 2 0", "3 2 2 1 1 1 1", "0 1 2 3 4 5 6,1 3 4,2 5 6,3,4,5,6"},
	{"two ways to one", "1 2,3,3,", "3 1 2 0", "3 2 2 1", "0 1 2 3,1 3,2 3,3"},
	{"two ways, one of them longer", "1 3,2,3,", "3 2 1 0", "4 3 2 1", "0 1 2 3,1 2 3,2 3,3"},
	{"the short way told first", "2 1,,3,1", "1 3 2 0", "4 1 3 2", "0 1 2 3,1,1 2 3,1 3"},
	{"nobody calls one", "1,,", "1 0 2", "2 1 1", "0 1,1,2"},
	{"nobody calls the first", ",2,", "0 2 1", "1 2 1", "0,1 2,2"},
	{"nobody calls one that calls", "1,,1 0", "1 0 2", "2 1 3", "0 1,1,0 1 2"},
	{"two parts", "2,3,,", "2 0 3 1", "2 2 1 1", "0 2,1 3,2,3"},
	{"one becomes ready late, and is the least", "4,,,,", "1 2 3 4 0", "2 1 1 1 1", "0 4,1,2,3,4"},
	{"one becomes ready early, and is the least", "1,,,,", "1 0 2 3 4", "2 1 1 1 1", "0 1,1,2,3,4"},
	{"least first, not deepest", "1,2,,,3", "2 1 0 3 4", "3 2 1 1 2", "0 1 2,1 2,2,3,3 4"},
}

func TestP802Straight(t *testing.T) {
	for _, c := range straightOnes {
		s := script(lists(c.graph)...)
		var g [][]int
		for _, l := range lists(c.graph) {
			slices.Sort(l)
			g = append(g, slices.Compact(l))
		}
		wantGraph(t, s, g...)
		wantOrder(t, s, numbers(c.order)...)
		wantDeep(t, s, numbers(c.deep)...)
		for f, l := range lists(c.reach) {
			wantReach(t, s, f, l...)
		}
		if t.Failed() {
			t.Fatal(c.what)
		}
	}
}

// TestP802Graph: only calls count, wherever they stand, and whatever number
// stands in other instructions.
func TestP802Graph(t *testing.T) {
	for _, c := range []struct{ text, graph string }{
		{"func -> ;", ""},
		{"func -> ; / int 1 / drop", ""},
		{"func -> ; / call 1 / func -> ;", "1,"},
		{"func -> ; / call 0", "0"},
		{"func -> ; / call 2 / call 0 / call 1 / call 0 / call 2 / func -> ; / call 2 / call 1 / func -> ;", "0 1 2,1 2,"},
		// within blocks
		{"func -> ; / true / if / call 1 / else / call 2 / end / func -> ; / func -> ;", "1 2,,"},
		{"func -> ; / true / if / call 2 / else / call 1 / end / func -> ; / func -> ;", "1 2,,"},
		{"func -> ; / loop 3 / call 1 / end / func -> ;", "1,"},
		{"func -> ; / loop 3 / loop 2 / true / if / call 1 / else / true / leave / end / end / end / func -> ;", "1,"},
		{"func -> ; / abort / call 1 / func -> ;", "1,"},
		{"func -> ; / false / if / call 1 / else / end / func -> ;", "1,"},
		// bad shape or types do not matter here
		{"func -> ; / if / call 1 / func -> ;", "1,"},
		{"func -> ; / end / end / call 1 / func int -> int ;", "1,"},
		{"func -> ; / add / call 1 / func -> ;", "1,"},
		// other instructions with the number of a function
		{"func -> ; / int 1 / drop / func -> ;", ","},
		{"const x'' / const x'' / func int int -> ; / const 1 / drop / get 1 / set 1 / loop 1 / end / func -> ;", ","},
		{"func -> ; / int 2 / drop / loop 3 / call 1 / end / func -> ; / func -> ; / func -> ;", "1,,,"},
	} {
		wantGraph(t, read(t, c.text), lists(c.graph)...)
	}
}

// TestP802WholeCode: the first and the last of MaxCode instructions count.
func TestP802WholeCode(t *testing.T) {
	code := slices.Repeat([]api.Instr{{Op: op.Abort}}, api.MaxCode)
	code[0] = api.Instr{Op: op.Call, A: 2}
	code[api.MaxCode-1] = api.Instr{Op: op.Call, A: 1}
	s := api.Script{Funcs: []api.Func{{Code: code}, {}, {}}}
	wantGraph(t, s, []int{1, 2}, nil, nil)
	wantOrder(t, s, 1, 2, 0)
	wantDeep(t, s, 2, 1, 1)
	wantReach(t, s, 0, 0, 1, 2)
	full := slices.Repeat([]api.Instr{{Op: op.Call, A: 1}}, api.MaxCode)
	s = api.Script{Funcs: []api.Func{{Code: full}, {}}}
	wantGraph(t, s, []int{1}, nil)
	wantOrder(t, s, 1, 0)
	wantDeep(t, s, 2, 1)
	wantReach(t, s, 0, 0, 1)
}

// upTo answers the numbers from the first one on, below the last one.
func upTo(first, last int) []int {
	var l []int
	for n := first; n < last; n++ {
		l = append(l, n)
	}
	return l
}

func downTo(first, last int) []int {
	l := upTo(last, first+1)
	slices.Reverse(l)
	return l
}

func TestP802MaxFuncsChain(t *testing.T) {
	const n = api.MaxFuncs
	var on, back [][]int
	for f := range n {
		on = append(on, upTo(f+1, min(f+2, n)))
		back = append(back, upTo(max(f-1, 0), f))
	}
	s := script(on...)
	wantGraph(t, s, on...)
	wantOrder(t, s, downTo(n-1, 0)...)
	wantDeep(t, s, downTo(n, 1)...)
	for f := range n {
		wantReach(t, s, f, upTo(f, n)...)
	}
	s = script(back...)
	wantGraph(t, s, back...)
	wantOrder(t, s, upTo(0, n)...)
	wantDeep(t, s, upTo(1, n+1)...)
	for f := range n {
		wantReach(t, s, f, upTo(0, f+1)...)
	}
}

// TestP802MaxFuncsAllBehind: each calls all behind it, so that the ways are as
// many as can be.
func TestP802MaxFuncsAllBehind(t *testing.T) {
	const n = api.MaxFuncs
	var g [][]int
	for f := range n {
		g = append(g, upTo(f+1, n))
	}
	s := script(g...)
	wantGraph(t, s, g...)
	wantOrder(t, s, downTo(n-1, 0)...)
	wantDeep(t, s, downTo(n, 1)...)
	g[n-1] = []int{0}
	wantRound(t, script(g...))
	for f := range n {
		wantReach(t, script(g...), f, upTo(0, n)...)
	}
}

func TestP802OneCallsAll(t *testing.T) {
	const n = api.MaxFuncs
	for f := range n {
		others := append(upTo(0, f), upTo(f+1, n)...)
		g := make([][]int, n)
		g[f] = others
		deep := slices.Repeat([]int{1}, n)
		deep[f] = 2
		s := script(g...)
		wantGraph(t, s, g...)
		wantOrder(t, s, append(slices.Clone(others), f)...)
		wantDeep(t, s, deep...)
		wantReach(t, s, f, upTo(0, n)...)
		for _, other := range others {
			wantReach(t, s, other, other)
		}
	}
}

func TestP802NobodyCalls(t *testing.T) {
	const n = api.MaxFuncs
	s := script(make([][]int, n)...)
	wantGraph(t, s, make([][]int, n)...)
	wantOrder(t, s, upTo(0, n)...)
	wantDeep(t, s, slices.Repeat([]int{1}, n)...)
	for f := range n {
		wantReach(t, s, f, f)
	}
}

// rounds are graphs in which calls go round.
var rounds = []struct{ what, graph, reach string }{
	{"itself", "0", "0"},
	{"itself twice", "0 0", "0"},
	{"itself, and another", "0 1,", "0 1,1"},
	{"itself, behind another", "1 0,", "0 1,1"},
	{"another calls itself", "1,1", "0 1,1"},
	{"another calls itself, unreached", ",1", "0,1"},
	{"the last one calls itself, unreached", "1,,2", "0 1,1,2"},
	{"all call themselves", "0,1,2", "0,1,2"},
	{"two go round", "1,0", "0 1,0 1"},
	{"two go round, and call themselves", "0 1,0 1", "0 1,0 1"},
	{"two go round behind the first", "1,2,1", "0 1 2,1 2,1 2"},
	{"two go round, unreached", ",2,1", "0,1 2,1 2"},
	{"two go round, unreached, and the first calls", "3,2,1,", "0 3,1 2,1 2,3"},
	{"two go round, and call on", "3,2,1 3,", "0 3,1 2 3,1 2 3,3"},
	{"two go round, and call the first", ",0 2,1", "0,0 1 2,0 1 2"},
	{"three go round", "1,2,0", "0 1 2,0 1 2,0 1 2"},
	{"three go round the other way", "2,0,1", "0 1 2,0 1 2,0 1 2"},
	{"three go round, unreached", ",3,1,2", "0,1 2 3,1 2 3,1 2 3"},
	{"two rounds", "1,0,3,2", "0 1,0 1,2 3,2 3"},
	{"two rounds, one behind the other", "1,0 2,3,2", "0 1 2 3,0 1 2 3,2 3,2 3"},
	{"a round that is not gone first", "1 2,,3,0", "0 1 2 3,1,0 1 2 3,0 1 2 3"},
	{"two ways, and a way back", "1 2,3,3,0", "0 1 2 3,0 1 2 3,0 1 2 3,0 1 2 3"},
}

func TestP802Round(t *testing.T) {
	for _, c := range rounds {
		s := script(lists(c.graph)...)
		wantRound(t, s)
		for f, l := range lists(c.reach) {
			wantReach(t, s, f, l...)
		}
		if g, e := calls.Graph(s); e != api.OK || len(g) != len(s.Funcs) {
			t.Errorf("Graph %v, error %d", g, e)
		}
		if t.Failed() {
			t.Fatal(c.what)
		}
	}
}

// TestP802LongRound: as many as there may be, all in one round, or the last ones
// alone.
func TestP802LongRound(t *testing.T) {
	const n = api.MaxFuncs
	for first := range n {
		var g [][]int
		for f := range n {
			g = append(g, []int{f + 1})
		}
		g[n-1] = []int{first}
		s := script(g...)
		wantGraph(t, s, g...)
		wantRound(t, s)
		for f := range n {
			wantReach(t, s, f, upTo(min(f, first), n)...)
		}
		if first > 0 {
			g[first-1] = nil // now nobody else reaches the round
			wantRound(t, script(g...))
			wantReach(t, script(g...), 0, upTo(0, first)...)
		}
	}
}

// TestP802RoundInBlock: a call counts even where it is never done.
func TestP802RoundInBlock(t *testing.T) {
	for _, text := range []string{
		"func -> ; / false / if / call 0 / end",
		"func -> ; / abort / call 0",
		"func -> ; / loop 2 / true / leave / call 0 / end",
		"func -> ; / call 1 / func -> ; / false / if / else / abort / call 0 / end",
		"func -> ; / func -> ; / loop 1 / false / if / call 1 / end / end",
	} {
		wantRound(t, read(t, text))
	}
}
