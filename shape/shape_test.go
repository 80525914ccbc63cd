package shape_test

import (
	"math"
	"slices"
	"strings"
	"testing"

	"weighhouse/api"
	"weighhouse/op"
	"weighhouse/shape"
)

// read answers the instructions whose names s has; 9*if is nine of them.
func read(t *testing.T, s string) []api.Instr {
	t.Helper()
	var c []api.Instr
	for _, w := range strings.Fields(s) {
		n := 1
		if head, name, ok := strings.Cut(w, "*"); ok {
			n, w = int(head[0]-'0'), name
		}
		o, ok := op.Find(w)
		if !ok {
			t.Fatalf("%q is no operation", w)
		}
		c = append(c, slices.Repeat([]api.Instr{{Op: o}}, n)...)
	}
	return c
}

// numbers are those at whose edges something may go wrong.
func numbers() []int {
	return []int{0, 1, -1, 2, -2, 64, 65, 255, 256, 1 << 31, 1 << 32, -1 << 32, math.MaxInt, math.MaxInt - 1, math.MinInt, math.MinInt + 1}
}

// noOps are numbers that are no operation; some are one as one byte, or as 32
// bits.
func noOps() []int {
	return []int{0, -1, 54, -op.If, -op.End, 256 + op.If, 256 + op.End, 256 + op.Else, 1<<32 + op.Loops, 1<<32 + op.Leave, math.MinInt, math.MinInt + op.End, math.MaxInt}
}

// others are operations that neither open, part, close nor leave a block.
func others() []int {
	var l []int
	for o := op.PushInt; o <= op.Call; o++ {
		switch o {
		case op.If, op.Else, op.End, op.Loops, op.Leave:
		default:
			l = append(l, o)
		}
	}
	return l
}

func wantMatch(t *testing.T, c []api.Instr, want ...int) {
	t.Helper()
	if m, err := shape.Match(c); err != api.OK || !slices.Equal(m, want) {
		t.Errorf("Match(%v): %v, error %d, want %v", c, m, err, want)
	}
}

func wantDepth(t *testing.T, c []api.Instr, want int) {
	t.Helper()
	if n, err := shape.Depth(c); err != api.OK || n != want {
		t.Errorf("Depth(%v): %d, error %d, want %d", c, n, err, want)
	}
}

func wantAround(t *testing.T, c []api.Instr, at int, want ...int) {
	t.Helper()
	if l := shape.Around(c, at); !slices.Equal(l, want) {
		t.Errorf("Around(%v, %d): %v, want %v", c, at, l, want)
	}
}

// wantBad holds that c is not of good shape, for all calls that ask for it.
func wantBad(t *testing.T, c []api.Instr) {
	t.Helper()
	if m, err := shape.Match(c); err != api.ErrShape || len(m) != 0 {
		t.Errorf("Match(%v): %v, error %d", c, m, err)
	}
	if n, err := shape.Depth(c); err != api.ErrShape || n != 0 {
		t.Errorf("Depth(%v): %d, error %d", c, n, err)
	}
	for at := -1; at <= len(c); at++ {
		wantAround(t, c, at)
	}
}

// examples are of good shape: their instructions, their match and their depth.
func examples() []struct {
	s     string
	match []int
	depth int
} {
	return []struct {
		s     string
		match []int
		depth int
	}{
		{"", nil, 0},
		{"true", []int{-1}, 0},
		{"int drop call", []int{-1, -1, -1}, 0},
		{"if end", []int{1, 0}, 1},
		{"if else end", []int{1, 2, 0}, 1},
		{"loop end", []int{1, 0}, 1},
		{"loop leave end", []int{2, 2, 0}, 1},
		{"true if abort end int", []int{-1, 3, -1, 1, -1}, 1},
		{"true if int else int end drop", []int{-1, 3, -1, 5, -1, 1, -1}, 1},
		{"if else int end", []int{1, 3, -1, 0}, 1},
		{"if int else end", []int{2, -1, 3, 0}, 1},
		{"int loop int drop true leave end", []int{-1, 6, -1, -1, -1, 6, 1}, 1},
		{"loop leave leave end", []int{3, 3, 3, 0}, 1},
		{"if end if end", []int{1, 0, 3, 2}, 1},
		{"if else end loop end if else end", []int{1, 2, 0, 4, 3, 6, 7, 5}, 1},
		{"loop leave end loop leave end", []int{2, 2, 0, 5, 5, 3}, 1},
		{"if if end end", []int{3, 2, 1, 0}, 2},
		{"if if else end else end", []int{4, 2, 3, 1, 5, 0}, 2},
		{"if else if else end end", []int{1, 5, 3, 4, 2, 0}, 2},
		{"if if end else if end end", []int{3, 2, 1, 6, 5, 4, 0}, 2},
		{"if loop leave end else loop leave end end", []int{4, 3, 3, 1, 8, 7, 7, 5, 0}, 2},
		{"loop if leave end end", []int{4, 3, 4, 1, 0}, 2},
		{"loop if else leave end end", []int{5, 2, 4, 5, 1, 0}, 2},
		{"loop if leave else leave end end", []int{6, 3, 6, 5, 6, 1, 0}, 2},
		{"loop loop leave end leave end", []int{5, 3, 3, 1, 5, 0}, 2},
		{"loop leave loop leave end end", []int{5, 5, 4, 4, 2, 0}, 2},
		{"loop loop end leave end", []int{4, 2, 1, 4, 0}, 2},
		{"loop if loop leave end leave end leave end", []int{8, 6, 4, 4, 2, 8, 1, 8, 0}, 3},
		{"loop if if leave end end end", []int{6, 5, 4, 6, 2, 1, 0}, 3},
		{"if loop end if if end end end loop end", []int{7, 2, 1, 6, 5, 4, 3, 0, 9, 8}, 3},
	}
}

func TestP602Examples(t *testing.T) {
	for _, x := range examples() {
		c := read(t, x.s)
		wantMatch(t, c, x.match...)
		wantDepth(t, c, x.depth)
	}
}

func TestP602OthersLeadNowhere(t *testing.T) {
	for _, o := range others() {
		x := api.Instr{Op: o}
		wantMatch(t, []api.Instr{x}, -1)
		wantDepth(t, []api.Instr{x, x}, 0)
		wantMatch(t, []api.Instr{x, {Op: op.Loops}, x, {Op: op.Leave}, {Op: op.End}, x}, -1, 4, -1, 4, 1, -1)
	}
}

// TestP602NoOperation: good shape asks for blocks alone, not for what else
// stands there.
func TestP602NoOperation(t *testing.T) {
	for _, o := range noOps() {
		x := api.Instr{Op: o}
		wantMatch(t, []api.Instr{x}, -1)
		wantDepth(t, []api.Instr{x}, 0)
		wantAround(t, []api.Instr{x}, 0)
		c := []api.Instr{{Op: op.If}, x, {Op: op.Else}, x, {Op: op.End}}
		wantMatch(t, c, 2, -1, 4, -1, 0)
		wantDepth(t, c, 1)
		wantAround(t, c, 3, 0)
		wantBad(t, []api.Instr{{Op: op.If}, x})
		wantBad(t, []api.Instr{x, {Op: op.End}})
	}
}

// TestP602NumbersDoNotMatter: an instruction's A says nothing of its block.
func TestP602NumbersDoNotMatter(t *testing.T) {
	for _, a := range numbers() {
		c := read(t, "loop if leave else true end end")
		for i := range c {
			c[i].A = a
		}
		wantMatch(t, c, 6, 3, 6, 5, -1, 1, 0)
		wantDepth(t, c, 2)
		wantAround(t, c, 4, 0, 1)
	}
}

func TestP602BadShape(t *testing.T) {
	for _, s := range []string{
		"if", "loop", "if else", "true if", "if if end", "loop if end", "if loop end", "if end if", "if else if end", "loop leave", "loop true",
		"end", "true end", "if end end", "loop end end", "if else end end", "end if", "end end", "end if end", "if end end if end", "end loop",
		"else", "true else", "else end", "if end else", "loop end else", "else if end", "if end else end",
		"if else else end", "if else true else end", "if else if end else end", "if else if else end else end", "if if else else end end", "loop if else else end end",
		"loop else end", "loop true else true end", "if loop else end end", "if loop else end else end", "loop if end else end", "loop if else end else end", "if else loop else end end",
		"leave", "true leave", "if leave end", "if else leave end", "if if leave end end", "leave loop end", "loop end leave", "loop leave end leave", "if loop end leave end", "if leave loop end end", "loop end if leave end",
	} {
		wantBad(t, read(t, s))
	}
}

func TestP602MostBlocks(t *testing.T) {
	for _, s := range []string{
		"8*if 8*end", "8*loop 8*end", "4*if 4*loop leave 8*end", "4*loop 4*if leave 8*end", "7*loop if leave else leave 8*end",
		"8*if else end else end else 6*end", "8*if end if end loop leave 8*end", "8*loop 8*end 8*if 8*end",
	} {
		wantDepth(t, read(t, s), api.MaxBlocks)
	}
	wantMatch(t, read(t, "8*if 8*end"), 15, 14, 13, 12, 11, 10, 9, 8, 7, 6, 5, 4, 3, 2, 1, 0)
	wantMatch(t, read(t, "loop 7*if leave 8*end"), 16, 15, 14, 13, 12, 11, 10, 9, 16, 7, 6, 5, 4, 3, 2, 1, 0)
	wantAround(t, read(t, "8*if true 8*end"), 8, 0, 1, 2, 3, 4, 5, 6, 7)
	for _, s := range []string{
		"9*if 9*end", "9*loop 9*end", "8*if loop 9*end", "8*loop if 9*end", "8*if else if 9*end", "8*if end 2*if 9*end", "8*if 8*end 9*loop 9*end",
		"9*if 9*if 9*end 9*end", "9*if", "8*if", "8*if 7*end", "8*if 9*end",
	} {
		wantBad(t, read(t, s))
	}
}

// TestP602ManyInstructions: how many blocks there are, and how many
// instructions, has no bound; how many are open has.
func TestP602ManyInstructions(t *testing.T) {
	const rounds = 100_000
	c := slices.Repeat(read(t, "loop if leave else end end"), rounds)
	wantDepth(t, c, 2)
	m, err := shape.Match(c)
	if err != api.OK || len(m) != 6*rounds {
		t.Fatalf("%d places, error %d", len(m), err)
	}
	for i, n := range []int{5, 3, 5, 4, 1, 0} {
		if got := m[6*(rounds-1)+i]; got != 6*(rounds-1)+n {
			t.Errorf("the last round's %d leads to %d", i, got)
		}
	}
	wantAround(t, c, len(c)-2, len(c)-6, len(c)-5)
	for _, s := range []string{"end", "else", "leave", "if", "loop"} {
		bad := append(slices.Clone(c), read(t, s)...)
		if m, err := shape.Match(bad); err != api.ErrShape || len(m) != 0 {
			t.Errorf("%s behind the rest: %d places, error %d", s, len(m), err)
		}
	}
}

func TestP602Around(t *testing.T) {
	for s, want := range map[string][][]int{
		"true":                 {nil},
		"true true":            {nil, nil},
		"if end":               {nil, {0}},
		"if else end":          {nil, {0}, {0}},
		"loop leave end":       {nil, {0}, {0}},
		"true if int end true": {nil, nil, {1}, {1}, nil},
		"if int else int end":  {nil, {0}, {0}, {0}, {0}},
		"if end loop end":      {nil, {0}, nil, {2}},
		"if loop end else end": {nil, {0}, {0, 1}, {0}, {0}},
		"loop if leave else true end end": {
			nil, {0}, {0, 1}, {0, 1}, {0, 1}, {0, 1}, {0},
		},
		"if else if else true end end": {
			nil, {0}, {0}, {0, 2}, {0, 2}, {0, 2}, {0},
		},
		"loop loop leave end if true end leave end": {
			nil, {0}, {0, 1}, {0, 1}, {0}, {0, 4}, {0, 4}, {0}, {0},
		},
	} {
		c := read(t, s)
		for at, l := range want {
			wantAround(t, c, at, l...)
		}
	}
}

func TestP602AroundNoPlace(t *testing.T) {
	for _, s := range []string{"", "true", "if end", "loop true end", "8*if 8*end", "if true end loop true end"} {
		c := read(t, s)
		for _, at := range []int{-1, -2, -len(c), -len(c) - 1, len(c), len(c) + 1, 2*len(c) + 1, 1 << 32, 1<<32 + 1, math.MinInt, math.MinInt + 1, math.MaxInt} {
			if at < 0 || at >= len(c) {
				wantAround(t, c, at)
			}
		}
	}
}

func TestP601NilIsEmpty(t *testing.T) {
	for _, c := range [][]api.Instr{nil, {}, make([]api.Instr, 0, 9)} {
		wantMatch(t, c)
		wantDepth(t, c, 0)
		for _, at := range numbers() {
			wantAround(t, c, at)
			for _, m := range [][]int{nil, {}, {0}} {
				wantNext(t, c, m, at, -1, -1)
			}
		}
	}
	for _, m := range [][]int{nil, {}} {
		wantNext(t, read(t, "true"), m, 0, -1, -1)
	}
}

func TestP601NothingChanged(t *testing.T) {
	for _, s := range []string{"", "true", "loop if leave else true end end", "if else end", "if else else end", "if", "end", "9*if 9*end"} {
		room := append(read(t, s), read(t, "if end leave")...)
		size := len(room) - 3
		places := slices.Repeat([]int{1}, size+3)
		c, m := room[:size], places[:size]
		roomWas, placesWas := slices.Clone(room), slices.Clone(places)
		shape.Match(c)
		shape.Depth(c)
		for at := -1; at <= size; at++ {
			shape.Around(c, at)
			shape.Next(c, m, at, true)
			shape.Next(c, m, at, false)
		}
		if !slices.Equal(room, roomWas) || !slices.Equal(places, placesWas) {
			t.Errorf("%q: changed to %v and %v", s, room, places)
		}
	}
}

func TestP601AnswersAreNew(t *testing.T) {
	c := read(t, "loop if leave else true end end")
	for range 2 {
		m, err := shape.Match(c)
		again, _ := shape.Match(c)
		a := shape.Around(c, 4)
		if err != api.OK || !slices.Equal(m, []int{6, 3, 6, 5, -1, 1, 0}) || !slices.Equal(m, again) || !slices.Equal(a, []int{0, 1}) {
			t.Fatalf("%v, %v, %v, error %d", m, again, a, err)
		}
		for _, l := range [][]int{m, a} {
			for i := range l[:cap(l)] {
				l[:cap(l)][i] = 99
			}
		}
		if !slices.Equal(again, []int{6, 3, 6, 5, -1, 1, 0}) {
			t.Errorf("%v behind a change of another answer", again)
		}
	}
}
