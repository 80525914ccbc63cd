package asm_test

import (
	"math"
	"math/rand"
	"slices"
	"strings"
	"testing"

	"weighhouse/api"
	"weighhouse/asm"
	"weighhouse/op"
)

// handHead writes a head by the chapter's words, of types that are some.
func handHead(f api.Func) string {
	s := "func"
	for i, l := range [][]int{f.Params, f.Results, f.Locals} {
		s += []string{"", " ->", " ;"}[i]
		for _, kind := range l {
			s += " " + []string{"int", "bytes", "bool"}[kind-1]
		}
	}
	return s
}

func sameFunc(a, b api.Func) bool {
	return slices.Equal(a.Params, b.Params) && slices.Equal(a.Results, b.Results) &&
		slices.Equal(a.Locals, b.Locals) && slices.Equal(a.Code, b.Code)
}

func wantHead(t *testing.T, s string, want api.Func) {
	t.Helper()
	if f, ok := asm.ReadHead(s); !ok || !sameFunc(f, want) {
		t.Errorf("ReadHead(%q): %+v, %v, want %+v", s, f, ok, want)
	}
}

func wantNoHead(t *testing.T, s string) {
	t.Helper()
	if f, ok := asm.ReadHead(s); ok || !sameFunc(f, api.Func{}) {
		t.Errorf("ReadHead(%.99q): %+v, %v", s, f, ok)
	}
}

func TestP502Heads(t *testing.T) {
	for s, f := range map[string]api.Func{
		"func -> ;":                               {},
		"func int -> bool ;":                      {Params: []int{1}, Results: []int{3}},
		"func bytes -> ;":                         {Params: []int{2}},
		"func -> int ;":                           {Results: []int{1}},
		"func -> ; bool":                          {Locals: []int{3}},
		"func int bytes -> bool ; int":            {Params: []int{1, 2}, Results: []int{3}, Locals: []int{1}},
		"func -> int int ; bytes bool int":        {Results: []int{1, 1}, Locals: []int{2, 3, 1}},
		"func bool bytes int -> ; bytes":          {Params: []int{3, 2, 1}, Locals: []int{2}},
		"func int int int -> bytes ; bool bool":   {Params: []int{1, 1, 1}, Results: []int{2}, Locals: []int{3, 3}},
		"func int bytes bool -> int bytes bool ;": {Params: []int{1, 2, 3}, Results: []int{1, 2, 3}},
	} {
		if got := asm.Head(f); got != s {
			t.Errorf("Head(%+v): %q, want %q", f, got, s)
		}
		wantHead(t, s, f)
	}
}

// TestP502HeadOfCode: the Code has no part in the head, whatever it is.
func TestP502HeadOfCode(t *testing.T) {
	f := api.Func{Params: []int{1}, Code: []api.Instr{{Op: op.Add}, {Op: 99, A: 99}}}
	if s := asm.Head(f); s != "func int -> ;" {
		t.Errorf("%q", s)
	}
	got, ok := asm.ReadHead(asm.Head(f))
	if !ok || len(got.Code) != 0 {
		t.Error(got, ok)
	}
}

func TestP502HeadWrong(t *testing.T) {
	for _, n := range []int{0, 4, -1, -2, 5, 255, 257, 258, 259, 1<<32 + 1, math.MinInt, math.MinInt + 1, math.MaxInt} {
		for _, l := range [][]int{{n}, {1, n}, {n, 1}, {2, n, 3}} {
			for _, f := range []api.Func{
				{Params: l}, {Results: l}, {Locals: l},
				{Params: l, Results: []int{1}, Locals: []int{2}},
				{Params: []int{3}, Results: l, Locals: []int{2}},
				{Params: []int{3}, Results: []int{1}, Locals: l},
			} {
				if s := asm.Head(f); s != "" {
					t.Errorf("Head(%+v): %q", f, s)
				}
			}
		}
	}
}

func TestP502ReadHeadWrong(t *testing.T) {
	for _, s := range []string{
		// words that lack, or are too many, or stand elsewhere
		"", " ", "func", "func ->", "func ;", "func -> int", "func int", "func int ;", "-> ;", "int -> ;", "->", ";",
		"func ; ->", "func -> ; ->", "func -> ; ;", "func -> -> ;", "func func -> ;", "func -> ; func", "-> func ;",
		"int func -> ;", "func -> ; int ;", "func int -> bool -> int ;",
		// types that are none
		"func foo -> ;", "func -> foo ;", "func -> ; foo", "func int foo -> ;", "func 1 -> ;", "func -> ; 1", "func ? -> ;",
		"func Int -> ;", "func INT -> ;", "func in -> ;", "func ints -> ;", "func -> byte ;", "func -> Bytes ;", "func -> ; boolean",
		"func -> ; Bool", "func int,int -> ;", "func intint -> ;", "func true -> ;", "func x'' -> ;", "func ınt -> ;",
		// words in another form
		"Func -> ;", "FUNC -> ;", "fun -> ;", "funcs -> ;", "func - > ;", "func => ;", "func > ;", "func - ;", "func --> ;", "func -> :", "func ->> ;",
		"func->;", "func ->;", "func-> ;", "func int->bool;", "func int -> bool;",
		// blanks, and bytes that are no letters
		" func -> ;", "func -> ; ", "func  -> ;", "func ->  ;", "func int  int -> ;", "func -> ;  int", "func -> ; int ", "func int  -> ;",
		"func\t-> ;", "func -> ;\n", "func -> ;\r", "\nfunc -> ;", "func -> ;\x00", "\x00func -> ;", "func\x00-> ;", "func -> \x00;", "func -> ;\xff",
		"func\u00a0-> ;", "func -> ;\nadd", "func -> ;\nfunc -> ;", "func in\x00t -> ;", "func int\r -> ;",
	} {
		wantNoHead(t, s)
	}
	wantNoHead(t, strings.Repeat(" ", 1<<20))
	wantNoHead(t, "func"+strings.Repeat(" int", 1<<20)+" -> ;")
	wantNoHead(t, strings.Repeat("func ", 1<<18)+"-> ;")
}

// TestP502HeadLength: 64 types are read, one more is not, wherever they stand;
// all of them are written.
func TestP502HeadLength(t *testing.T) {
	for _, n := range []int{0, 1, 8, 9, 16, 17, 32, 63, 64, 65, 66, 128, 192, 256, 1000} {
		for k := range 3 {
			l := times(n, 1+k)
			for _, f := range []api.Func{
				{Params: l}, {Results: l}, {Locals: l},
				{Params: l[:n/2], Results: l[n/2:]},
				{Params: l[:n/3], Results: l[n/3 : n/2], Locals: l[n/2:]},
				{Params: l[:n/2], Locals: l[n/2:]},
			} {
				s := asm.Head(f)
				if s != handHead(f) {
					t.Errorf("the head of %+v: %q", f, s)
				}
				if n <= 64 {
					wantHead(t, s, f)
				} else {
					wantNoHead(t, s)
				}
			}
		}
	}
}

func TestP502HeadJustSo(t *testing.T) {
	for _, s := range []string{"func -> ;", "func int bytes -> bool ; int", "func -> bytes ;"} {
		for _, c := range changed(s) {
			f, ok := asm.ReadHead(c)
			if !ok && !sameFunc(f, api.Func{}) || ok && asm.Head(f) != c {
				t.Errorf("ReadHead(%q): %+v, %v", c, f, ok)
			}
		}
	}
}

func TestP504HeadsThereAndBack(t *testing.T) {
	rnd := rand.New(rand.NewSource(504))
	for range 2000 {
		f := api.Func{Params: someTypes(rnd, 21), Results: someTypes(rnd, 21), Locals: someTypes(rnd, 22)}
		s := asm.Head(f)
		if s != handHead(f) {
			t.Fatalf("%+v: %q", f, s)
		}
		wantHead(t, s, f)
	}
}

// someTypes answers up to most of them.
func someTypes(rnd *rand.Rand, most int) []int {
	l := make([]int, rnd.Intn(most+1))
	for i := range l {
		l[i] = 1 + rnd.Intn(3)
	}
	return l
}

func TestP501HeadNilIsEmpty(t *testing.T) {
	empty := api.Func{Params: []int{}, Results: []int{}, Locals: []int{}, Code: []api.Instr{}}
	if a, b := asm.Head(api.Func{}), asm.Head(empty); a != "func -> ;" || b != a {
		t.Errorf("%q, %q", a, b)
	}
}

// wipe changes all of l, and the room behind it.
func wipe[T any](l []T, x T) {
	l = l[:cap(l)]
	for i := range l {
		l[i] = x
	}
}

func TestP501HeadSharesNothing(t *testing.T) {
	const s = "func int -> bytes bytes ; bool bool bool"
	want := api.Func{Params: []int{1}, Results: []int{2, 2}, Locals: []int{3, 3, 3}}
	for i := range 3 {
		a, _ := asm.ReadHead(s)
		b, _ := asm.ReadHead(s)
		lists := []*[]int{&a.Params, &a.Results, &a.Locals}
		kept := slices.Clone(*lists[i])
		wipe(*lists[i], 9)
		*lists[i] = kept
		if !sameFunc(a, want) || !sameFunc(b, want) {
			t.Error("lists share memory:", i, a, b)
		}
	}
}

func TestP501HeadChangesNothing(t *testing.T) {
	l := []int{1, 2, 3, 77, 77, 77, 77}
	f := api.Func{Params: l[:1], Results: l[1:2], Locals: l[2:3]}
	if s := asm.Head(f); s != "func int -> bytes ; bool" {
		t.Errorf("%q", s)
	}
	if !slices.Equal(l, []int{1, 2, 3, 77, 77, 77, 77}) {
		t.Error("Head changed what it was handed:", l)
	}
}

// FuzzReadHead: no function, or one whose head is the same text.
func FuzzReadHead(f *testing.F) {
	for _, s := range []string{"", "func -> ;", "func int -> bool ; bytes", "func  -> ;", "func ; ->"} {
		f.Add(s)
	}
	f.Fuzz(func(t *testing.T, s string) {
		h, ok := asm.ReadHead(s)
		if !ok && !sameFunc(h, api.Func{}) || ok && (asm.Head(h) != s || len(h.Code) != 0) {
			t.Errorf("%q: %+v, %v", s, h, ok)
		}
	})
}
