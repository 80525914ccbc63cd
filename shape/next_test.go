package shape_test

import (
	"math"
	"testing"

	"weighhouse/api"
	"weighhouse/op"
	"weighhouse/shape"
)

func wantNext(t *testing.T, c []api.Instr, m []int, at, yes, no int) {
	t.Helper()
	if n := shape.Next(c, m, at, true); n != yes {
		t.Errorf("Next(%v, %v, %d, true): %d, want %d", c, m, at, n, yes)
	}
	if n := shape.Next(c, m, at, false); n != no {
		t.Errorf("Next(%v, %v, %d, false): %d, want %d", c, m, at, n, no)
	}
}

func matched(t *testing.T, c []api.Instr) []int {
	t.Helper()
	m, err := shape.Match(c)
	if err != api.OK {
		t.Fatalf("Match(%v): error %d", c, err)
	}
	return m
}

// TestP603EachPlace: of each place of instructions what is done next, if so and
// if not.
func TestP603EachPlace(t *testing.T) {
	for s, want := range map[string][][2]int{
		"true":                 {{1, 1}},
		"true int drop":        {{1, 1}, {2, 2}, {3, 3}},
		"if end":               {{1, 2}, {1, 2}},
		"if true end true":     {{1, 3}, {2, 2}, {1, 3}, {4, 4}},
		"if else end":          {{1, 2}, {3, 3}, {1, 3}},
		"if int else int end":  {{1, 3}, {2, 2}, {5, 5}, {4, 4}, {1, 5}},
		"true if int else end": {{1, 1}, {2, 4}, {3, 3}, {5, 5}, {2, 5}},
		"loop end":             {{1, 1}, {1, 2}},
		"loop leave end":       {{1, 1}, {3, 2}, {1, 3}},
		"int loop true leave drop end int": {
			{1, 1}, {2, 2}, {3, 3}, {6, 4}, {5, 5}, {2, 6}, {7, 7},
		},
		"loop if leave else true end end": {
			{1, 1}, {2, 4}, {7, 3}, {6, 6}, {5, 5}, {2, 6}, {1, 7},
		},
		"loop loop leave end leave end true": {
			{1, 1}, {2, 2}, {4, 3}, {2, 4}, {6, 5}, {1, 6}, {7, 7},
		},
	} {
		c := read(t, s)
		m := matched(t, c)
		for at, n := range want {
			wantNext(t, c, m, at, n[0], n[1])
		}
	}
}

func TestP603OthersGoOn(t *testing.T) {
	for _, o := range append(append(others(), op.Loops), noOps()...) {
		c := []api.Instr{{Op: o}, {Op: o}}
		for _, to := range numbers() {
			m := []int{to, to}
			wantNext(t, c, m, 0, 1, 1)
			wantNext(t, c, m, 1, 2, 2)
		}
	}
}

func TestP603NoPlace(t *testing.T) {
	for _, s := range []string{"", "true", "if else end", "loop leave end", "loop if leave else true end end"} {
		c := read(t, s)
		m := matched(t, c)
		for _, at := range []int{-1, -2, -len(c), -len(c) - 1, len(c), len(c) + 1, 1 << 32, 1<<32 + 1, math.MinInt, math.MinInt + 1, math.MaxInt} {
			if at < 0 || at >= len(c) {
				wantNext(t, c, m, at, -1, -1)
			}
		}
	}
}

// TestP603ShorterMatch: a place of the instructions that the match has not is
// none of both.
func TestP603ShorterMatch(t *testing.T) {
	c := read(t, "true if int else int end")
	m := matched(t, c)
	for size := range len(c) {
		for at := range c {
			switch {
			case at >= size:
				wantNext(t, c, m[:size], at, -1, -1)
			default:
				wantNext(t, c, m[:size], at, shape.Next(c, m, at, true), shape.Next(c, m, at, false))
			}
		}
	}
	// where it leads is a place of the instructions, if not of the match
	wantNext(t, read(t, "if true else end"), []int{2}, 0, 1, 3)
	wantNext(t, read(t, "if true"), []int{1}, 0, 1, 2)
}

func TestP603LongerMatch(t *testing.T) {
	c := read(t, "if else end")
	m := []int{1, 2, 0, 1, 2, 0}
	for at, want := range [][2]int{{1, 2}, {3, 3}, {1, 3}, {-1, -1}, {-1, -1}, {-1, -1}, {-1, -1}} {
		wantNext(t, c, m, at, want[0], want[1])
	}
	// a place of the match that is none of the instructions
	wantNext(t, read(t, "if"), []int{1, 1, 1}, 0, 1, -1)
	wantNext(t, read(t, "else"), []int{2, 1, 1}, 0, -1, -1)
}

// TestP603MatchIsNoPlace: it is told only where the match is asked.
func TestP603MatchIsNoPlace(t *testing.T) {
	for _, to := range []int{-1, -2, 4, 5, 1 << 32, 1<<32 + 1, math.MinInt, math.MinInt + 1, math.MaxInt, math.MaxInt - 1} {
		c := read(t, "if else end leave")
		m := []int{to, to, to, to}
		wantNext(t, c, m, 0, 1, -1)
		wantNext(t, c, m, 1, -1, -1)
		wantNext(t, c, m, 2, -1, 3)
		wantNext(t, c, m, 3, -1, 4)
	}
}

// TestP603MatchIsAPlace: m is taken as it is, whether it is c's match or not,
// and whether c is of good shape or not.
func TestP603MatchIsAPlace(t *testing.T) {
	c := read(t, "if else end leave")
	for to := range c {
		m := []int{to, to, to, to}
		wantNext(t, c, m, 0, 1, to+1)
		wantNext(t, c, m, 1, to+1, to+1)
		wantNext(t, c, m, 2, to+1, 3)
		wantNext(t, c, m, 3, to+1, 4)
	}
}

// TestP603NumbersDoNotMatter: an instruction's A does not say where it goes on.
func TestP603NumbersDoNotMatter(t *testing.T) {
	for _, a := range numbers() {
		c := read(t, "loop if leave else true end end")
		m := matched(t, c)
		for i := range c {
			yes, no := shape.Next(c, m, i, true), shape.Next(c, m, i, false)
			c[i].A = a
			wantNext(t, c, m, i, yes, no)
		}
	}
}
