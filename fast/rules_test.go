package fast_test

import (
	"bytes"
	"math"
	"math/rand"
	"slices"
	"strings"
	"testing"

	"weighhouse/api"
	"weighhouse/asm"
	"weighhouse/code"
	"weighhouse/fast"
	"weighhouse/op"
	"weighhouse/slow"
	"weighhouse/store"
	"weighhouse/value"
	"weighhouse/verify"
)

// wantOnly holds a run to an error, no gas, and nothing else.
func wantOnly(t *testing.T, what string, r slow.Result, e api.Errno) {
	t.Helper()
	if !same(r, slow.Result{E: e}) {
		t.Errorf("%s: %+v, want error %d alone", what, r, e)
	}
}

// saves is a script that changes a transaction and emits, if it is run at all.
const saves = "const x'6b' / func -> int ; / const 0 / const 0 / save / const 0 / emit / int 5"

// mixed is a script with a bit of each kind.
const mixed = "const x'6b' / const x'6b6b' / func int bytes -> int bytes bytes bool ; int / get 0 / set 2 / loop 3 / get 2 / call 1 / set 2 / get 2 / pack / emit / end / const 0 / get 1 / save / get 2 / get 1 / const 1 / get 1 / save / const 1 / load / func int -> int ; / get 0 / dup / add"

func TestP1301NoProgram(t *testing.T) {
	var zero fast.Program
	for what, p := range map[string]*fast.Program{"nil": nil, "not made": {}, "a zero one": &zero, "new": new(fast.Program)} {
		if p.Bound() != 0 || len(p.Params()) != 0 {
			t.Error(what, p.Bound(), p.Params())
		}
		if s := p.Script(); len(s.Consts) != 0 || len(s.Funcs) != 0 {
			t.Error(what, s)
		}
		x := begun(full(5))
		was := x.Changes()
		for _, tx := range []*store.Tx{x, nil, {}} {
			for _, args := range [][]api.Value{nil, {}, values("1 x'61' true"), make([]api.Value, 100)} {
				wantOnly(t, what, p.Run(args, tx), api.ErrArg)
			}
		}
		if !slices.Equal(x.Changes(), was) {
			t.Errorf("%s: changes %q", what, x.Changes())
		}
	}
}

// TestP1301NoneOfAnError: what is answered beside an error is none, in all
// calls.
func TestP1301NoneOfAnError(t *testing.T) {
	p, e := fast.Of(api.Script{})
	q, e2 := fast.Compile(nil)
	if p != nil || q != nil || e != api.ErrScript || e2 != api.ErrScript {
		t.Fatal(p, e, q, e2)
	}
	wantOnly(t, "none", p.Run(nil, store.Begin(store.New())), api.ErrArg)
}

func TestP1303NoTx(t *testing.T) {
	var zero store.Tx
	for what, x := range map[string]*store.Tx{"nil": nil, "not made": {}, "a zero one": &zero, "begun of nil": store.Begin(nil), "begun of none": store.Begin(new(store.Store))} {
		for _, text := range []string{saves, "func -> ;", "func -> ; / abort", "func int -> ;"} {
			s := parse(text)
			p := compiled(t, s)
			for _, args := range [][]api.Value{nil, values("1"), values("true")} {
				wantOnly(t, what, p.Run(args, x), api.ErrArg)
				wantOnly(t, what, slow.Run(s, args, x, p.Bound()), api.ErrArg)
			}
		}
	}
}

func TestP1303Arguments(t *testing.T) {
	x := store.Begin(stored("a", "1"))
	heads := map[string][]string{ // what does not fit
		"":                {"1", "x''", "true", "1 2"},
		"int":             {"", "x''", "true", "1 2", "1 true"},
		"bytes":           {"", "1", "true", "x'' x''"},
		"bool":            {"", "1", "x''", "true true", "0"},
		"int bytes bool":  {"", "1", "1 x''", "1 x'' true 1", "true x'' 1", "x'' 1 true", "1 x'' 1", "1 1 true"},
		"int int int int": {"1 1 1", "1 1 1 1 1", "1 1 1 true"},
	}
	for head, l := range heads {
		s := parse(strings.Replace("const x'6b' / func "+head+" -> int ; int / const 0 / const 0 / save / int 5", "func  ->", "func ->", 1))
		p := compiled(t, s)
		for _, args := range l {
			wantOnly(t, head+": "+args, p.Run(values(args), x), api.ErrArgs)
			wantOnly(t, head+": "+args, slow.Run(s, values(args), x, p.Bound()), api.ErrArgs)
		}
	}
	p := compiled(t, parse("func int bytes bool -> ; / abort"))
	right := []api.Value{value.Number(1), value.Text("a"), value.Truth(true)}
	for at, l := range [][]api.Value{
		{{Type: 1, N: 1, B: "x"}, {Type: 0}, {Type: 4}, {Type: -1}},
		{{Type: 2, N: 1}, {Type: 2, B: strings.Repeat("v", api.MaxValue+1)}, {}},
		{{Type: 3, N: 2}, {Type: 3, N: -1}, {Type: 3, B: "x"}, {Type: 3, N: math.MaxInt}, {Type: math.MinInt}},
	} {
		for _, v := range l {
			args := slices.Clone(right)
			args[at] = v
			wantOnly(t, "a value that may not be", p.Run(args, x), api.ErrArgs)
		}
	}
	wantOnly(t, "very many", p.Run(make([]api.Value, 1<<20), x), api.ErrArgs)
	if r := p.Run(right, x); !same(r, slow.Result{Gas: 1, E: api.ErrAbort}) {
		t.Errorf("arguments that fit: %+v", r)
	}
	if len(x.Changes()) != 0 {
		t.Error("changes:", x.Changes())
	}
}

// wrongScripts are such as are not verified, with the error that is told.
func wrongScripts() map[string]api.Errno {
	return map[string]api.Errno{
		"func -> ; / end":                                   api.ErrShape,
		"func -> ; / true / if":                             api.ErrShape,
		"func -> ; / true / leave":                          api.ErrShape,
		"func -> ; / func -> ; / else":                      api.ErrShape, // never called
		"func -> ; / loop 2 / true / end":                   api.ErrStack,
		"func -> ; / add":                                   api.ErrStack,
		"func -> int ;":                                     api.ErrStack,
		"func -> ;" + lines(api.MaxStack+1, "true"):         api.ErrStack,
		"func -> int ; / true":                              api.ErrType,
		"func -> ; / int 1 / if / end":                      api.ErrType,
		"func bool -> ; int / get 0 / set 1":                api.ErrType,
		"func -> ; / call 0":                                api.ErrCall,
		"func -> ; / call 1 / func -> ; / call 0":           api.ErrCall,
		"func -> ;" + lines(4, "loop 64") + lines(4, "end"): api.ErrGas,
	}
}

// wantMade holds both ways of making a program of s to what verify says of it,
// and answers its error.
func wantMade(t *testing.T, s api.Script) api.Errno {
	t.Helper()
	report, want := verify.Of(s)
	p, e := fast.Of(s)
	if e != want || (p == nil) != (e != api.OK) {
		t.Errorf("%v: Of: %v, error %d, want %d", s, p, e, want)
	}
	b, unwritten := code.Put(s)
	if unwritten != api.OK {
		return e
	}
	q, e2 := fast.Compile(b)
	if e2 != want || (q == nil) != (e2 != api.OK) {
		t.Errorf("%v: Compile: %v, error %d, want %d", s, q, e2, want)
	}
	for _, made := range []*fast.Program{p, q} {
		if made == nil {
			continue
		}
		if made.Bound() != report.Gas || !slices.Equal(made.Params(), s.Funcs[0].Params) || !code.Same(made.Script(), s) {
			t.Errorf("%q: %d, %v, %q; bound %d", asm.Print(s), made.Bound(), made.Params(), asm.Print(made.Script()), report.Gas)
		}
	}
	return e
}

func TestP1302Looks(t *testing.T) {
	for text, gas := range map[string]int{
		"func -> ;":                           0,
		"func int bytes bool int -> ; bytes":  0,
		"func -> int ; / int 6 / int 7 / mul": 4,
		"func bool -> int ; / get 0 / if / int 1 / else / int 2 / neg / end / func int -> ; / abort": 5,
		mixed: 1 + 1 + 2 + 3*(1+5+3+1+1+3+10+1) + 32 + 2 + 32 + 21,
	} {
		s := parse(text)
		if e := wantMade(t, s); e != api.OK || compiled(t, s).Bound() != gas {
			t.Errorf("%q: error %d, bound %d, want %d", text, e, compiled(t, s).Bound(), gas)
		}
	}
	if l := compiled(t, parse("func int bytes bool int -> bool ; bytes / true")).Params(); !slices.Equal(l, []int{1, 2, 3, 1}) {
		t.Error("Params:", l)
	}
}

func TestP1302WrongScripts(t *testing.T) {
	for text, want := range wrongScripts() {
		if e := wantMade(t, parse(text)); e != want {
			t.Errorf("%q: error %d, want %d", text, e, want)
		}
	}
	one := func(f api.Func) api.Script { return api.Script{Consts: []string{"k"}, Funcs: []api.Func{f}} }
	for what, s := range map[string]api.Script{
		"nothing":            {},
		"too many functions": {Funcs: make([]api.Func, api.MaxFuncs+1)},
		"too many constants": {Consts: make([]string, api.MaxConsts+1), Funcs: make([]api.Func, 1)},
		"a long constant":    {Consts: []string{strings.Repeat("k", api.MaxValue+1)}, Funcs: make([]api.Func, 1)},
		"a type 4":           one(api.Func{Params: []int{4}}),
		"a type below":       one(api.Func{Locals: []int{-1}}),
		"too many Params":    one(api.Func{Params: slices.Repeat([]int{1}, api.MaxTypes+1)}),
		"too long":           one(api.Func{Code: slices.Repeat([]api.Instr{{Op: op.Abort}}, api.MaxCode+1)}),
		"no operation":       one(api.Func{Code: []api.Instr{{Op: 0}}}),
		"an operation past":  one(api.Func{Code: []api.Instr{{Op: op.Call + 1}}}),
		"a huge operation":   one(api.Func{Code: []api.Instr{{Op: math.MaxInt}}}),
		"a constant past":    one(api.Func{Code: []api.Instr{{Op: op.PushConst, A: 1}, {Op: op.Drop}}}),
		"a slot past":        one(api.Func{Code: []api.Instr{{Op: op.Get}, {Op: op.Drop}}}),
		"a function past":    one(api.Func{Code: []api.Instr{{Op: op.Call, A: math.MinInt}}}),
		"no rounds":          one(api.Func{Code: []api.Instr{{Op: op.Loops}, {Op: op.End}}}),
	} {
		if e := wantMade(t, s); e != api.ErrScript {
			t.Errorf("%s: error %d", what, e)
		}
	}
}

// TestP1302Written: scripts of all kinds, right ones and wrong ones.
func TestP1302Written(t *testing.T) {
	r := rand.New(rand.NewSource(1302))
	n := tally{}
	for range 4000 {
		s := written(r)
		for range r.Intn(3) {
			s = spoilt(r, s)
		}
		if n[wantMade(t, s)]++; t.Failed() {
			return
		}
	}
	n.wantSome(t, 20, api.OK, api.ErrShape, api.ErrStack, api.ErrType)
}

// TestP1302Bytes: bytes that are a script, that are cut short, have more behind
// them, or another byte among them, and any at all.
func TestP1302Bytes(t *testing.T) {
	r := rand.New(rand.NewSource(13))
	n := tally{}
	want := func(b []byte) {
		t.Helper()
		was := bytes.Clone(b)
		report, e := verify.Check(b)
		p, got := fast.Compile(b)
		if n[e]++; got != e || (p == nil) != (e != api.OK) || p.Bound() != report.Gas || !code.Same(p.Script(), report.Script) {
			t.Fatalf("%x: error %d, want %d", b, got, e)
		}
		if !bytes.Equal(b, was) {
			t.Fatal("Compile has changed its bytes")
		}
	}
	want(nil)
	want([]byte{})
	want([]byte{0, 1, 0, 0, 0, 0, 0})
	for range 150 {
		b, _ := code.Put(written(r))
		want(b)
		want(append(bytes.Clone(b), 0))
		for range 60 {
			want(b[:r.Intn(len(b))])
			other := bytes.Clone(b)
			other[r.Intn(len(b))] = byte(r.Intn(256))
			want(other)
			r.Read(other)
			want(other[:r.Intn(len(b))])
		}
	}
	n.wantSome(t, 20, api.OK, api.ErrScript, api.ErrShape, api.ErrStack, api.ErrType)
}

// roomy answers a script with room behind each of its lists, with something in
// it; whole answers it with that.
func roomy(text string) (s api.Script, whole func() api.Script) {
	s = parse(text)
	consts, funcs := len(s.Consts), len(s.Funcs)
	s.Consts = append(s.Consts, "room")[:consts]
	s.Funcs = append(s.Funcs, api.Func{Params: []int{3}})[:funcs]
	for i := range s.Funcs {
		f := &s.Funcs[i]
		f.Params, f.Results, f.Locals = append(f.Params, 7)[:len(f.Params)], append(f.Results, 7)[:len(f.Results)], append(f.Locals, 7)[:len(f.Locals)]
		f.Code = append(f.Code, api.Instr{Op: 77})[:len(f.Code)]
	}
	return s, func() api.Script {
		c := api.Script{Consts: s.Consts[:consts+1], Funcs: slices.Clone(s.Funcs[:funcs+1])}
		for i := range funcs {
			f := &c.Funcs[i]
			f.Params, f.Results, f.Locals, f.Code = f.Params[:len(f.Params)+1], f.Results[:len(f.Results)+1], f.Locals[:len(f.Locals)+1], f.Code[:len(f.Code)+1]
		}
		return code.Clone(c)
	}
}

func TestP1301HandedInStays(t *testing.T) {
	s, whole := roomy(mixed)
	args := append(values("5 x'76'"), value.Truth(true))
	was, kept := whole(), slices.Clone(args)
	p := compiled(t, s)
	for range 3 {
		p.Run(args[:2], store.Begin(store.New()))
	}
	if !code.Same(whole(), was) || !slices.Equal(args, kept) {
		t.Error("what was handed in has changed")
	}
}

// spoilAll writes all over a script, and the room behind its lists.
func spoilAll(s api.Script) {
	for _, f := range s.Funcs[:cap(s.Funcs)] {
		for _, l := range [][]int{f.Params, f.Results, f.Locals} {
			for i := range l[:cap(l)] {
				l[:cap(l)][i] = 2
			}
		}
		clear(f.Code[:cap(f.Code)])
	}
	clear(s.Funcs[:cap(s.Funcs)])
	clear(s.Consts[:cap(s.Consts)])
}

// TestP1301Apart: whatever is done to a script or bytes that a program was made
// of, or to what it answers, changes no program.
func TestP1301Apart(t *testing.T) {
	args := values("5 x'76'")
	s, b := parse(mixed), []byte(nil)
	b, _ = code.Put(s)
	p := compiled(t, s)
	q, e := fast.Compile(b)
	if e != api.OK {
		t.Fatal(e)
	}
	first := slow.Run(s, args, store.Begin(store.New()), p.Bound())
	want := func(what string) {
		t.Helper()
		for _, made := range []*fast.Program{p, q} {
			if r := made.Run(args, store.Begin(store.New())); !same(r, first) || r.E != api.OK {
				t.Errorf("behind %s: %+v, want %+v", what, r, first)
			}
			if !code.Same(made.Script(), parse(mixed)) || !slices.Equal(made.Params(), []int{api.Int, api.Bytes}) || made.Bound() < first.Gas {
				t.Errorf("behind %s: %q, %v, %d", what, asm.Print(made.Script()), made.Params(), made.Bound())
			}
		}
	}
	want("nothing")
	spoilAll(s)
	clear(b)
	want("the script and the bytes")
	for _, made := range []*fast.Program{p, q} {
		one, two := made.Script(), made.Script()
		spoilAll(one)
		if !code.Same(two, parse(mixed)) {
			t.Error("two answers share memory")
		}
		l := made.Params()
		for i := range l[:cap(l)] {
			l[:cap(l)][i] = 9
		}
	}
	want("what Script and Params answer")
	for _, made := range []*fast.Program{p, q} {
		r := made.Run(args, store.Begin(store.New()))
		for i := range r.Out[:cap(r.Out)] {
			r.Out[:cap(r.Out)][i] = value.Number(-1)
		}
		for i := range r.Emits[:cap(r.Emits)] {
			r.Emits[:cap(r.Emits)][i] = "spoilt"
		}
	}
	want("what Run answers")
	if !slices.Equal(args, values("5 x'76'")) {
		t.Error("an answer shares its memory with the arguments")
	}
	clear(args)
	if first.Out[1] != value.Text("v") {
		t.Error("an answer shares the arguments' memory")
	}
}

func TestP1301NilIsEmpty(t *testing.T) {
	empty := api.Func{Params: []int{}, Results: []int{}, Locals: []int{}, Code: []api.Instr{}}
	for _, s := range []api.Script{{Funcs: []api.Func{{}}}, {Consts: []string{}, Funcs: []api.Func{empty}}} {
		p := compiled(t, s)
		for _, args := range [][]api.Value{nil, {}} {
			wantOnly(t, "nothing", p.Run(args, store.Begin(store.New())), api.OK)
		}
		if !code.Same(p.Script(), s) || len(p.Params()) != 0 || p.Bound() != 0 {
			t.Error(p.Script(), p.Params(), p.Bound())
		}
	}
	if p, e := fast.Of(api.Script{Consts: []string{}, Funcs: []api.Func{}}); p != nil || e != api.ErrScript {
		t.Error(p, e)
	}
}

// TestP1301TransactionAlone: a run changes the transaction, not its store, and
// not another transaction of it; one that does nothing changes nothing.
func TestP1301TransactionAlone(t *testing.T) {
	on := stored("a", "1", "b", "2")
	x, other := store.Begin(on), store.Begin(on)
	was := on.Bytes()
	wantOnly(t, "nothing", compiled(t, parse("func -> ;")).Run(nil, x), api.OK)
	wantOnly(t, "no arguments", compiled(t, parse(saves)).Run(values("1"), x), api.ErrArgs)
	if len(x.Changes()) != 0 {
		t.Errorf("changes: %q", x.Changes())
	}
	s := parse("const x'61' / const x'63' / func -> ; / const 0 / wipe / const 1 / const 0 / save")
	if r := compiled(t, s).Run(nil, x); r.E != api.OK {
		t.Error(r)
	}
	if l := x.Changes(); !slices.Equal(l, []store.Pair{{Key: "a"}, {Key: "c", Value: "a"}}) {
		t.Errorf("changes: %q", l)
	}
	if !bytes.Equal(on.Bytes(), was) || len(other.Changes()) != 0 {
		t.Error("more than the transaction has changed")
	}
	if e := x.Commit(); e != api.OK || !slices.Equal(shown(store.Begin(on)), []string{"b", "2", "c", "a"}) {
		t.Errorf("behind Commit: %d, %q", e, on.Scan("", "", 0))
	}
}
