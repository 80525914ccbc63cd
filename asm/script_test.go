package asm_test

import (
	"fmt"
	"math"
	"math/rand"
	"slices"
	"strings"
	"testing"

	"weighhouse/api"
	"weighhouse/asm"
	"weighhouse/code"
	"weighhouse/op"
)

const nothing = "func -> ;\n"

// handText writes a script's lines by the chapter's words, also of one that
// may not be.
func handText(s api.Script) string {
	var out strings.Builder
	for _, c := range s.Consts {
		fmt.Fprintf(&out, "const x'%x'\n", c)
	}
	for _, f := range s.Funcs {
		out.WriteString(handHead(f) + "\n")
		for _, x := range f.Code {
			name := strings.Fields(names)[x.Op-1]
			if takes(name) {
				name += fmt.Sprintf(" %d", x.A)
			}
			out.WriteString(name + "\n")
		}
	}
	return out.String()
}

func wantScript(t *testing.T, text string, want api.Script) {
	t.Helper()
	s, bad := asm.Parse(text)
	if bad != 0 || !code.Same(s, want) {
		t.Errorf("Parse(%.99q): %+v, %d, want %+v", text, s, bad, want)
	}
}

func wantBad(t *testing.T, text string, want int) {
	t.Helper()
	s, bad := asm.Parse(text)
	if bad != want || !code.Same(s, api.Script{}) {
		t.Errorf("Parse(%.99q): %+v, %d, want %d", text, s, bad, want)
	}
}

func TestP503Scripts(t *testing.T) {
	for text, s := range map[string]api.Script{
		nothing:                     {Funcs: []api.Func{{}}},
		nothing + nothing + nothing: {Funcs: []api.Func{{}, {}, {}}},
		"const x''\nconst x'6b00ff0a'\n" + nothing: {Consts: []string{"", "k\x00\xff\n"}, Funcs: []api.Func{{}}},
		"func int -> bool ;\nget 0\nint 3\nlt\n": {Funcs: []api.Func{{Params: []int{1}, Results: []int{3},
			Code: []api.Instr{{Op: op.Get}, {Op: op.PushInt, A: 3}, {Op: op.Lt}}}}},
		"const x'6b'\nfunc int bytes -> bool ; int\nget 2\nint -3\nlt\nloop 4\nend\nfunc -> ;\nconst 0\ncall 1\n": {
			Consts: []string{"k"},
			Funcs: []api.Func{
				{Params: []int{1, 2}, Results: []int{3}, Locals: []int{1},
					Code: []api.Instr{{Op: op.Get, A: 2}, {Op: op.PushInt, A: -3}, {Op: op.Lt}, {Op: op.Loops, A: 4}, {Op: op.End}}},
				{Code: []api.Instr{{Op: op.PushConst}, {Op: op.Call, A: 1}}},
			}},
	} {
		if got := asm.Print(s); got != text {
			t.Errorf("Print(%+v): %q, want %q", s, got, text)
		}
		wantScript(t, text, s)
	}
}

// TestP503EachOperation: a script of one function that does it.
func TestP503EachOperation(t *testing.T) {
	for o := op.PushInt; o <= op.Call; o++ {
		x := api.Instr{Op: o}
		if o == op.Loops {
			x.A = 64
		}
		s := api.Script{Consts: []string{"a"}, Funcs: []api.Func{{Params: []int{1}, Code: []api.Instr{x}}}}
		if got := asm.Print(s); got != handText(s) {
			t.Errorf("%+v: %q, want %q", s, got, handText(s))
		}
		wantScript(t, handText(s), s)
	}
}

// wrongOnes are scripts whose lines are all good, but that may not be.
func wrongOnes() []api.Script {
	one := func(x api.Instr) api.Script {
		return api.Script{Consts: []string{"a"}, Funcs: []api.Func{{Params: []int{1}, Locals: []int{2}, Code: []api.Instr{x}}}}
	}
	f := api.Func{}
	return []api.Script{
		{},
		{Consts: []string{"a"}},
		{Consts: times(api.MaxConsts+1, ""), Funcs: []api.Func{f}},
		{Funcs: times(api.MaxFuncs+1, f)},
		{Funcs: []api.Func{{Params: times(api.MaxTypes+1, 1)}}},
		{Funcs: []api.Func{f, {Results: times(api.MaxTypes+1, 2)}}},
		{Funcs: []api.Func{{Locals: times(api.MaxLocals+1, 3)}}},
		{Funcs: []api.Func{{Locals: times(64, 3)}, f}},
		{Funcs: []api.Func{{Params: times(api.MaxTypes, 1), Locals: times(api.MaxLocals-api.MaxTypes+1, 3)}}},
		{Funcs: []api.Func{{Code: times(api.MaxCode+1, api.Instr{Op: op.Add})}}},
		one(api.Instr{Op: op.PushConst, A: 1}), one(api.Instr{Op: op.PushConst, A: -1}),
		one(api.Instr{Op: op.Get, A: 2}), one(api.Instr{Op: op.Get, A: -1}),
		one(api.Instr{Op: op.Set, A: 2}), one(api.Instr{Op: op.Set, A: math.MinInt}),
		one(api.Instr{Op: op.Loops, A: 0}), one(api.Instr{Op: op.Loops, A: 65}), one(api.Instr{Op: op.Loops, A: -1}),
		one(api.Instr{Op: op.Call, A: 1}), one(api.Instr{Op: op.Call, A: math.MaxInt}),
	}
}

func TestP503MayNotBe(t *testing.T) {
	for _, s := range wrongOnes() {
		if got := asm.Print(s); got != "" {
			t.Errorf("Print(%+v): %q", s, got)
		}
		wantBad(t, handText(s), -2)
	}
	wantBad(t, strings.Repeat(nothing, 6553), -2)
	wantBad(t, nothing+strings.Repeat("add\n", 16000), -2)
	wantBad(t, strings.Repeat("const x''\n", 6553), -2)
}

// TestP503PrintWrong: scripts of what has no line at all.
func TestP503PrintWrong(t *testing.T) {
	for _, s := range []api.Script{
		{Consts: []string{strings.Repeat("k", api.MaxValue+1)}, Funcs: []api.Func{{}}},
		{Funcs: []api.Func{{Params: []int{0}}}},
		{Funcs: []api.Func{{}, {Results: []int{4}}}},
		{Funcs: []api.Func{{Locals: []int{-1}}}},
		{Funcs: []api.Func{{Code: []api.Instr{{Op: 0}}}}},
		{Funcs: []api.Func{{Code: []api.Instr{{Op: op.Add}, {Op: 54}}}}},
		{Funcs: []api.Func{{Code: []api.Instr{{Op: op.Add, A: 1}}}}},
	} {
		if got := asm.Print(s); got != "" {
			t.Errorf("Print(%+v): %q", s, got)
		}
	}
}

func TestP503EmptyText(t *testing.T) {
	wantBad(t, "", -2)
	for n := 1; n < 4; n++ {
		wantBad(t, strings.Repeat("\n", n), 1)
	}
}

// badLines are lines that are none, nor any other line's beginning.
func badLines() []string {
	return []string{
		"", " ", "  ", "\r", "\x00", "\xff", "\t", "x", "foo", "1", "->", ";", "//", "# add",
		"func", "func ", "func ;", "func ->", "func -> ; ", "func -> ; foo", "func -> ; ;", "Func -> ;", "FUNC -> ;", " func -> ;", "func  -> ;", "func -> ;\r",
		"func" + strings.Repeat(" int", 65) + " -> ;",
		"const", "const ", "const a", "const true", "const -0", "const x'0'", "const x'0G'", "const x'AB'", "const x'", "const  x''", "const x'' ", " const x''",
		"const x'' x''", "const x''\r", "Const x''", "CONST x''", "const X''", "constx''", "const x'00'x", "const x'" + strings.Repeat("00", 257) + "'",
		"add 0", "add 1", "add ", " add", "Add", "ADD", "add\r", "add\x00", "add add", "addd",
		"get", "get ", "get 00", "get +1", "get -0", "get  0", "get 0 ", "get\t0", "get 0\r", "int 9223372036854775808", "int -9223372036854775809", "int 1 2", "int x''",
		"int " + strings.Repeat("1", 100),
	}
}

// TestP503BadLines: wherever the line stands, its number is told, as long as
// all ahead of it are good.
func TestP503BadLines(t *testing.T) {
	for _, line := range badLines() {
		for ahead, number := range map[string]int{
			"":                      1,
			"const x''\n":           2,
			nothing:                 2,
			nothing + "add\n":       3,
			"const x''\n" + nothing: 3,
			"const x''\n" + nothing + "add\nget 0\n" + nothing: 6,
		} {
			for _, behind := range []string{"", "\n", "\n" + nothing, "\nadd\n", "\nfoo\n", "\nfoo", "\n\n\n"} {
				if line == "" && behind == "" {
					continue
				}
				wantBad(t, ahead+line+behind, number)
			}
		}
	}
}

// TestP503BadPlaces: lines that are some, but stand where they may not.
func TestP503BadPlaces(t *testing.T) {
	for text, number := range map[string]int{
		// a const behind a func
		nothing + "const x''\n":                 2,
		nothing + "const x'6b'\n" + nothing:     2,
		"const x''\n" + nothing + "const x''\n": 3,
		nothing + "add\nconst x'00'\n":          3,
		nothing + nothing + "const x''\nfoo\n":  3,
		// an instruction ahead of the first func
		"get 0\n":                           1,
		"add\n" + nothing:                   1,
		"const 0\n" + nothing:               1,
		"const x''\nconst 0\n" + nothing:    2,
		"const x''\nint 5\nfoo\n" + nothing: 2,
		"int 3":                             1,
		// no byte 10 behind the last line
		"func -> ;":                       1,
		"func int -> bool ; bytes":        1,
		"const x''":                       1,
		"const x''\nconst x''":            2,
		"const x''\nfunc -> ;":            2,
		nothing + "add":                   2,
		nothing + "int 3":                 2,
		nothing + "add\nfunc -> ;":        3,
		nothing + "add\n" + nothing + "x": 4,
		nothing + "func -> ;\nconst x''":  3,
		"add\nfunc -> ;":                  1,
		// a byte 13 ahead of each byte 10, or in its stead
		"func -> ;\r\nadd\r\n": 1,
		"func -> ;\radd\r":     1,
	} {
		wantBad(t, text, number)
	}
}

// TestP503LineAheadOfScript: a line that is none is told ahead of a script
// that may not be.
func TestP503LineAheadOfScript(t *testing.T) {
	for _, s := range wrongOnes() {
		text := handText(s)
		n := strings.Count(text, "\n")
		wantBad(t, text+"foo\n", n+1)
		wantBad(t, text+"\n", n+1)
		wantBad(t, text+"func -> ;", n+1)
	}
}

// TestP503HeadLength: a head with 64 types is a line, if of a script that may
// not be; one with 65 is none.
func TestP503HeadLength(t *testing.T) {
	for _, n := range []int{8, 9, 63, 64, 65, 66} {
		want := -2
		if n <= 8 {
			want = 0
		} else if n > 64 {
			want = 2
		}
		text := "const x''\nfunc" + strings.Repeat(" bytes", n) + " -> ;\n"
		if _, bad := asm.Parse(text); bad != want {
			t.Errorf("%d types: %d, want %d", n, bad, want)
		}
	}
}

func TestP503ConstLength(t *testing.T) {
	for n, want := range map[int]int{0: 0, 1: 0, 255: 0, 256: 0, 257: 2, 258: 2, 1000: 2, 20000: 2} {
		text := "const x''\nconst x'" + strings.Repeat("6b", n) + "'\n" + nothing
		if _, bad := asm.Parse(text); bad != want {
			t.Errorf("%d bytes: %d, want %d", n, bad, want)
		}
	}
}

// longScript answers a script that may be, whose text has that many bytes.
func longScript(t *testing.T, size int) api.Script {
	t.Helper()
	f := api.Func{Code: times(api.MaxCode, api.Instr{Op: op.PushInt})}
	var s api.Script
	for range api.MaxFuncs {
		s.Funcs = append(s.Funcs, api.Func{Code: slices.Clone(f.Code)})
	}
	more := size - len(handText(s))
	for i := range s.Funcs {
		for j := range s.Funcs[i].Code {
			digits := min(more, 17)
			s.Funcs[i].Code[j].A = int(math.Pow10(digits)) * min(digits, 1)
			more -= digits
		}
	}
	if n := len(handText(s)); n != size || !code.Right(s) {
		t.Fatal("the text has", n, "bytes")
	}
	return s
}

func TestP503MaxText(t *testing.T) {
	for _, n := range []int{api.MaxText - 1, api.MaxText} {
		s := longScript(t, n)
		text := asm.Print(s)
		if len(text) != n || text != handText(s) {
			t.Error("the text has", len(text), "bytes")
		}
		wantScript(t, text, s)
		wantBad(t, text[:n-1], strings.Count(text, "\n"))
	}
	for _, n := range []int{api.MaxText + 1, api.MaxText + 2, api.MaxText + 9000} {
		s := longScript(t, n)
		text := asm.Print(s)
		if len(text) != n || text != handText(s) {
			t.Error("the text has", len(text), "bytes")
		}
		wantBad(t, text, -1)
	}
}

// TestP503TooLong: that a text is too long is told ahead of all else.
func TestP503TooLong(t *testing.T) {
	for _, s := range []string{"x", "\n", " ", "\x00", "a", nothing, "const x''\n", "func -> ;\nadd\n"} {
		text := strings.Repeat(s, 1+api.MaxText/len(s)+1)
		wantBad(t, text[:api.MaxText+1], -1)
		wantBad(t, text[:api.MaxText+1]+text+text, -1)
		if _, bad := asm.Parse(text[:api.MaxText]); bad == -1 || bad == 0 {
			t.Errorf("MaxText bytes of %q: %d", s, bad)
		}
	}
	wantBad(t, strings.Repeat("x", api.MaxText), 1)
	wantBad(t, strings.Repeat(nothing, 1<<20), -1)
}

// someScript answers one that may be, of all operations.
func someScript(rnd *rand.Rand) api.Script {
	s := api.Script{Funcs: make([]api.Func, 1+rnd.Intn(4))}
	for range rnd.Intn(4) {
		b := make([]byte, rnd.Intn(5))
		rnd.Read(b)
		s.Consts = append(s.Consts, string(b))
	}
	for i := range s.Funcs {
		f := &s.Funcs[i]
		f.Params, f.Results, f.Locals = someTypes(rnd, 8), someTypes(rnd, 8), someTypes(rnd, 8)
		for range rnd.Intn(12) {
			counts := map[int]int{
				op.PushConst: len(s.Consts), op.Get: len(f.Params) + len(f.Locals), op.Set: len(f.Params) + len(f.Locals), op.Call: len(s.Funcs)}
			if x := (api.Instr{Op: 1 + rnd.Intn(53)}); someA(rnd, &x, counts) {
				f.Code = append(f.Code, x)
			}
		}
	}
	return s
}

// someA answers false if there is no A that may be.
func someA(rnd *rand.Rand, x *api.Instr, counts map[int]int) bool {
	count, bound := counts[x.Op]
	switch {
	case x.Op == op.PushInt:
		x.A = int(rnd.Uint64()) >> rnd.Intn(64)
	case x.Op == op.Loops:
		x.A = 1 + rnd.Intn(api.MaxLoop)
	case bound && count == 0:
		return false
	case bound:
		x.A = rnd.Intn(count)
	}
	return true
}

func TestP504ThereAndBack(t *testing.T) {
	rnd := rand.New(rand.NewSource(504))
	for range 3000 {
		s := someScript(rnd)
		text := asm.Print(s)
		if text != handText(s) {
			t.Fatalf("%+v: %q, want %q", s, text, handText(s))
		}
		wantScript(t, text, s)
	}
}

// TestP504JustSo: a text of which one byte is another one, or is more, or is
// gone, says nothing, or is another script's.
func TestP504JustSo(t *testing.T) {
	const text = "const x'6b'\nfunc int bytes -> bool ; int\nget 0\nint -30\nlt\nloop 4\nend\nfunc -> ;\nconst 0\ncall 1\n"
	got := 0
	for _, c := range changed(text) {
		s, bad := asm.Parse(c)
		if bad == 0 {
			got++
		}
		if bad == 0 && (asm.Print(s) != c || !code.Right(s)) || bad != 0 && !code.Same(s, api.Script{}) {
			t.Errorf("%q: %+v, %d", c, s, bad)
		}
	}
	if got < 40 {
		t.Error("scripts among those texts:", got)
	}
}

// TestP504Cut: a script's beginnings are other scripts where a line ends, and
// none elsewhere.
func TestP504Cut(t *testing.T) {
	const text = "const x''\nconst x'6b'\nfunc int bytes -> bool ; int\nget 0\nint -3\nlt\nfunc -> ;\nadd\n"
	for n := range len(text) {
		lines := strings.Count(text[:n], "\n")
		switch {
		case n > 0 && text[n-1] != '\n':
			wantBad(t, text[:n], lines+1)
		case lines < 3:
			wantBad(t, text[:n], -2)
		default:
			if s, bad := asm.Parse(text[:n]); bad != 0 || asm.Print(s) != text[:n] {
				t.Errorf("%q: %d", text[:n], bad)
			}
		}
	}
}

func TestP501NilIsEmpty(t *testing.T) {
	empty := api.Func{Params: []int{}, Results: []int{}, Locals: []int{}, Code: []api.Instr{}}
	for _, s := range []api.Script{
		{Funcs: []api.Func{{}}}, {Consts: []string{}, Funcs: []api.Func{empty}},
	} {
		if text := asm.Print(s); text != nothing {
			t.Errorf("%+v: %q", s, text)
		}
	}
	for _, s := range []api.Script{{}, {Consts: []string{}, Funcs: []api.Func{}}} {
		if text := asm.Print(s); text != "" {
			t.Errorf("%+v: %q", s, text)
		}
	}
}

// TestP501ListsShareNothing: the lists of one answer are changed one by one,
// with the room behind them; no other one changes.
func TestP501ListsShareNothing(t *testing.T) {
	const text = "const x'61'\nconst x'62'\nfunc int -> bytes ; bool\nadd\nget 0\nfunc bytes -> int ; int\nint 1\nint 2\nint 3\nfunc -> ;\n"
	want, _ := asm.Parse(text)
	for i := range want.Funcs {
		a, _ := asm.Parse(text)
		f, g := &a.Funcs[i], want.Funcs[i]
		for _, change := range []func(){
			func() { wipe(f.Params, 9); f.Params = g.Params },
			func() { wipe(f.Results, 9); f.Results = g.Results },
			func() { wipe(f.Locals, 9); f.Locals = g.Locals },
			func() { wipe(f.Code, api.Instr{Op: 99}); f.Code = g.Code },
			func() { wipe(a.Consts, "?"); a.Consts = want.Consts },
		} {
			change()
			if !code.Same(a, want) {
				t.Error("lists share memory:", i, a)
			}
		}
	}
	if got := asm.Print(want); got != text {
		t.Errorf("answers share memory: %q", got)
	}
}

func TestP501PrintChangesNothing(t *testing.T) {
	consts := []string{"a", "room"}
	types := []int{1, 2, 3, 77}
	instrs := []api.Instr{{Op: op.PushConst}, {Op: op.Get, A: 1}, {Op: 77}}
	funcs := []api.Func{{Params: types[:1], Results: types[1:2], Locals: types[2:3], Code: instrs[:2]}, {Code: instrs}}
	s := api.Script{Consts: consts[:1], Funcs: funcs[:1]}
	kept := code.Clone(api.Script{Consts: consts, Funcs: funcs})
	keptTypes := slices.Clone(types)
	if text := asm.Print(s); text != "const x'61'\nfunc int -> bytes ; bool\nconst 0\nget 1\n" {
		t.Errorf("%q", text)
	}
	if !code.Same(api.Script{Consts: consts, Funcs: funcs}, kept) || !slices.Equal(types, keptTypes) {
		t.Error("Print changed what it was handed:", consts, types, funcs)
	}
}

// FuzzParse: of any text a fault, or a script that is printed as the same text.
func FuzzParse(f *testing.F) {
	f.Add("")
	f.Add(nothing)
	f.Add("const x'6b'\nfunc int -> bool ; bytes\nget 0\nint -3\nlt\n")
	f.Add("func -> ;\nconst x''\n")
	f.Fuzz(func(t *testing.T, text string) {
		s, bad := asm.Parse(text)
		if bad == 0 && (asm.Print(s) != text || !code.Right(s)) || bad != 0 && !code.Same(s, api.Script{}) {
			t.Errorf("%q: %+v, %d", text, s, bad)
		}
		if bad < -2 || bad > strings.Count(text, "\n")+1 {
			t.Errorf("%q: %d", text, bad)
		}
	})
}
