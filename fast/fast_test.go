package fast_test

import (
	"fmt"
	"slices"
	"strings"
	"testing"

	"weighhouse/api"
	"weighhouse/asm"
	"weighhouse/code"
	"weighhouse/fast"
	"weighhouse/op"
	"weighhouse/slow"
	"weighhouse/store"
	"weighhouse/value"
	"weighhouse/verify"
)

// parse answers the script of a text whose lines are parted by " / ".
func parse(text string) api.Script {
	s, bad := asm.Parse(strings.ReplaceAll(text, " / ", "\n") + "\n")
	if bad != 0 {
		panic(fmt.Sprintf("%q: line %d", text, bad))
	}
	return s
}

func values(text string) []api.Value {
	l, e := value.Parse(text)
	if e != api.OK {
		panic(text)
	}
	return l
}

// lines answers a line so many times, each behind " / ".
func lines(n int, line string) string {
	return strings.Repeat(" / "+line, n)
}

// compiled answers the program of a script that is to be verified.
func compiled(t *testing.T, s api.Script) *fast.Program {
	t.Helper()
	p, e := fast.Of(s)
	if e != api.OK || p == nil {
		t.Fatalf("%q: Of: %v, error %d", asm.Print(s), p, e)
	}
	return p
}

// stored answers a store of keys and values.
func stored(l ...string) *store.Store {
	s := store.New()
	for i := 0; i < len(l); i += 2 {
		if e := s.Put(l[i], l[i+1]); e != api.OK {
			panic(l[i])
		}
	}
	return s
}

// full answers a store with so many keys.
func full(n int) *store.Store {
	s := store.New()
	for i := range n {
		s.Put(fmt.Sprintf("key%03d", i), strings.Repeat("v", i%20))
	}
	return s
}

// shown answers what a transaction shows, keys and values, by Next and Load.
func shown(x *store.Tx) (l []string) {
	if v, ok := x.Load(""); ok {
		l = append(l, "", v)
	}
	for k, ok := x.Next(""); ok; k, ok = x.Next(k) {
		v, _ := x.Load(k)
		l = append(l, k, v)
	}
	return l
}

func same(a, b slow.Result) bool {
	return slices.Equal(a.Out, b.Out) && slices.Equal(a.Emits, b.Emits) && a.Gas == b.Gas && a.E == b.E
}

// begun answers a transaction of the store that has changes already.
func begun(on *store.Store) *store.Tx {
	x := store.Begin(on)
	x.Wipe("key001")
	x.Save("key002", "changed")
	x.Save("a", "new")
	return x
}

// wantSlow holds runs of the program of s, made in both ways, in a transaction
// with changes and in one without, to slow.Run of s; it answers the result of the
// last one.
func wantSlow(t *testing.T, s api.Script, args []api.Value, on *store.Store) slow.Result {
	t.Helper()
	b, _ := code.Put(s)
	report, e := verify.Of(s)
	got, e2 := fast.Compile(b)
	if e != api.OK || e2 != api.OK {
		t.Fatalf("%q: verify: error %d, Compile: error %d", asm.Print(s), e, e2)
	}
	hash := on.Hash()
	var last slow.Result
	for i, p := range []*fast.Program{got, compiled(t, s)} {
		for _, begin := range []func(*store.Store) *store.Tx{begun, store.Begin} {
			x, y := begin(on), begin(on)
			r, want := p.Run(args, x), slow.Run(s, args, y, report.Gas)
			if !same(r, want) {
				t.Errorf("%q of %v: %+v, want %+v", asm.Print(s), args, r, want)
			}
			if !slices.Equal(x.Changes(), y.Changes()) || i == 0 && !slices.Equal(shown(x), shown(y)) {
				t.Errorf("%q of %v: changes %q, want %q", asm.Print(s), args, x.Changes(), y.Changes())
			}
			last = r
		}
	}
	if on.Hash() != hash {
		t.Errorf("%q of %v: the store has changed", asm.Print(s), args)
	}
	return last
}

// row is a run: a script and arguments as texts, and what it comes to.
type row struct {
	text, args, out string
	gas             int
	e               api.Errno
}

func wantRows(t *testing.T, on *store.Store, l []row) {
	t.Helper()
	for _, c := range l {
		want := slow.Result{Out: values(c.out), Gas: c.gas, E: c.e}
		if r := wantSlow(t, parse(c.text), values(c.args), on); !same(r, want) {
			t.Errorf("%q of %s: %+v, want %+v", c.text, c.args, r, want)
		}
	}
}

func TestP1303Example(t *testing.T) {
	wantRows(t, store.New(), []row{{"func -> int ; / int 6 / int 7 / mul", "", "42", 4, api.OK}})
}

func TestP1303Stack(t *testing.T) {
	wantRows(t, store.New(), []row{
		{"func -> ;", "", "", 0, api.OK},
		{"func int bytes bool -> ; int", "1 x'61' true", "", 0, api.OK},
		{"func -> int ; / int -9223372036854775808", "", "-9223372036854775808", 1, api.OK},
		{"const x'61' / const x'' / func -> bytes bytes ; / const 1 / const 0", "", "x'' x'61'", 2, api.OK},
		{"func -> bool bool ; / true / false", "", "true false", 2, api.OK},
		{"func -> int ; / int 1 / int 2 / drop", "", "1", 3, api.OK},
		{"func -> int bool bool ; / int 1 / true / dup", "", "1 true true", 3, api.OK},
		{"func -> int bool int ; / int 1 / int 2 / true / swap", "", "1 true 2", 4, api.OK},
		{"func -> int int bool int ; / int 1 / int 2 / true / over", "", "1 2 true 2", 4, api.OK},
		{"func int bytes bool -> bool bytes int ; / get 2 / get 1 / get 0", "-3 x'ff' true", "true x'ff' -3", 3, api.OK},
		{"func -> int bytes bool ; int bytes bool / get 0 / get 1 / get 2", "", "0 x'' false", 3, api.OK},
		{"func int -> int int ; int / int 7 / set 1 / get 0 / get 1", "5", "5 7", 4, api.OK},
		{"func int -> int ; / int 7 / set 0 / get 0", "5", "7", 3, api.OK},
		{"func bytes -> bytes bytes ; / get 0 / get 0 / dup / join / set 0 / get 0", "x'61'", "x'61' x'6161'", 11, api.OK},
		{"func -> int int int int int int int int ; / int 1 / int 2 / int 3 / int 4 / int 5 / int 6 / int 7 / int 8", "", "1 2 3 4 5 6 7 8", 8, api.OK},
		{"func int int int int int int int int -> int int ; / get 7 / get 0", "1 2 3 4 5 6 7 8", "8 1", 2, api.OK},
	})
}

// samples are some values of each type.
func samples(kind int) []api.Value {
	switch kind {
	case api.Int:
		return values("0 1 2 3 -1 8 63 64 255 -256 -9223372036854775808 9223372036854775807")
	case api.Bytes:
		l := values("x'' x'00' x'61' x'616263' x'616264' x'ffffffffffffffff' x'000000000000000000'")
		return append(l, value.Text(strings.Repeat("v", api.MaxValue-1)), value.Text(strings.Repeat("v", api.MaxValue)))
	}
	return values("true false")
}

// lists answers all lists of samples of these types; ? is one of each type.
func lists(kinds []int) [][]api.Value {
	all := [][]api.Value{nil}
	for _, kind := range kinds {
		some := samples(kind)
		if kind == 0 {
			some = values("-7 x'6162' true")
		}
		var longer [][]api.Value
		for _, l := range all {
			for _, v := range some {
				longer = append(longer, append(slices.Clone(l), v))
			}
		}
		all = longer
	}
	return all
}

func typesOf(l ...api.Value) (kinds []int) {
	for _, v := range l {
		kinds = append(kinds, v.Type)
	}
	return kinds
}

// put answers an instruction that puts a value there: s gets a constant for
// bytes.
func put(s *api.Script, v api.Value) api.Instr {
	switch v.Type {
	case api.Int:
		return api.Instr{Op: op.PushInt, A: v.N}
	case api.Bytes:
		s.Consts = append(s.Consts, v.B)
		return api.Instr{Op: op.PushConst, A: len(s.Consts) - 1}
	}
	return api.Instr{Op: op.False - v.N}
}

// doing answers a script that puts values there, does x with the last ones of
// them, and ends with what is there then.
func doing(x api.Instr, results []int, l ...api.Value) api.Script {
	var s api.Script
	var c []api.Instr
	for _, v := range l {
		c = append(c, put(&s, v))
	}
	s.Funcs = []api.Func{{Results: results, Code: append(c, x)}}
	return s
}

// getting is like doing, but the values are arguments.
func getting(x api.Instr, results []int, l ...api.Value) api.Script {
	var c []api.Instr
	for i := range l {
		c = append(c, api.Instr{Op: op.Get, A: i})
	}
	return api.Script{Funcs: []api.Func{{Params: typesOf(l...), Results: results, Code: append(c, x)}}}
}

// TestP1303Plain: each plain operation on many values, with others below them
// that stay.
func TestP1303Plain(t *testing.T) {
	told := tally{}
	below := values("-5 x'626c' true")
	for n := op.PushInt; n <= op.Call; n++ {
		if !op.Plain(n) {
			continue
		}
		for _, l := range lists(op.In(n)) {
			out, e := op.Apply(n, l...)
			told[e]++
			all, results := slices.Concat(below, l), slices.Concat(typesOf(below...), op.Out(n))
			want := slow.Result{Out: slices.Concat(below, out), Gas: len(all) + op.Cost(n), E: e}
			if e != api.OK {
				want.Out = nil
			}
			x := api.Instr{Op: n}
			if r := wantSlow(t, doing(x, results, all...), nil, store.New()); !same(r, want) {
				t.Fatalf("%s of %v: %+v, want %+v", op.Name(n), l, r, want)
			}
			if r := wantSlow(t, getting(x, results, all...), all, store.New()); !same(r, want) {
				t.Fatalf("%s of arguments %v: %+v, want %+v", op.Name(n), l, r, want)
			}
		}
	}
	told.wantSome(t, 5, api.OK, api.ErrZero, api.ErrLong, api.ErrIndex)
}

// TestP1303Moves: what takes any type, on each.
func TestP1303Moves(t *testing.T) {
	for n, out := range map[int]func(l []api.Value) []api.Value{
		op.Drop: func(l []api.Value) []api.Value { return nil },
		op.Dup:  func(l []api.Value) []api.Value { return []api.Value{l[0], l[0]} },
		op.Swap: func(l []api.Value) []api.Value { return []api.Value{l[1], l[0]} },
		op.Over: func(l []api.Value) []api.Value { return []api.Value{l[0], l[1], l[0]} },
	} {
		for _, l := range lists(op.In(n)) {
			want := slow.Result{Out: append(values("9"), out(l)...), Gas: len(l) + 2}
			all := append(values("9"), l...)
			if r := wantSlow(t, doing(api.Instr{Op: n}, typesOf(want.Out...), all...), nil, store.New()); !same(r, want) {
				t.Errorf("%s of %v: %+v, want %+v", op.Name(n), l, r, want)
			}
		}
	}
	for kind := api.Int; kind <= api.Bool; kind++ {
		for _, v := range samples(kind) {
			s := doing(api.Instr{Op: op.Set, A: 1}, []int{kind}, v)
			s.Funcs[0].Locals = []int{1 + kind%3, kind, 1 + kind%3}
			s.Funcs[0].Code = append(s.Funcs[0].Code, api.Instr{Op: op.Get, A: 1})
			if r := wantSlow(t, s, nil, store.New()); !same(r, slow.Result{Out: []api.Value{v}, Gas: 3}) {
				t.Errorf("set and get of %v: %+v", v, r)
			}
		}
	}
}

func TestP1303Store(t *testing.T) {
	long := "x'" + strings.Repeat("6b", api.MaxKey+1) + "'"
	most := "x'" + strings.Repeat("6b", api.MaxKey) + "'"
	value := "x'" + strings.Repeat("76", api.MaxValue) + "'"
	wantRows(t, stored("a", "1", "b", "", "d", "4"), []row{
		{"func bytes -> bytes bool ; / get 0 / load", "x'61'", "x'31' true", 21, api.OK},
		{"func bytes -> bytes bool ; / get 0 / load", "x'62'", "x'' true", 21, api.OK},
		{"func bytes -> bytes bool ; / get 0 / load", "x'63'", "x'' false", 21, api.OK},
		{"func bytes -> bytes bool ; / get 0 / load", "x''", "x'' false", 21, api.OK},
		{"func bytes -> bytes bool ; / get 0 / load", long, "x'' false", 21, api.OK},
		{"func bytes -> bool ; / get 0 / has", "x'61'", "true", 16, api.OK},
		{"func bytes -> bool ; / get 0 / has", "x'62'", "true", 16, api.OK},
		{"func bytes -> bool ; / get 0 / has", "x'63'", "false", 16, api.OK},
		{"func bytes -> bool ; / get 0 / has", long, "false", 16, api.OK},
		{"func bytes -> bytes bool ; / get 0 / next", "x''", "x'61' true", 21, api.OK},
		{"func bytes -> bytes bool ; / get 0 / next", "x'61'", "x'62' true", 21, api.OK},
		{"func bytes -> bytes bool ; / get 0 / next", "x'63'", "x'64' true", 21, api.OK},
		{"func bytes -> bytes bool ; / get 0 / next", value, "x'' false", 21, api.OK},
		{"func bytes bytes -> bytes bool ; / get 0 / get 1 / save / get 0 / load", "x'63' x'33'", "x'33' true", 53, api.OK},
		{"func bytes bytes -> bytes bool ; / get 0 / get 1 / save / get 0 / load", "x'61' x''", "x'' true", 53, api.OK},
		{"func bytes bytes -> bytes bool ; / get 0 / get 1 / save / get 0 / load", most + " " + value, value + " true", 53, api.OK},
		{"func bytes bytes -> ; / get 0 / get 1 / save", long + " x'33'", "", 32, api.ErrLong},
		{"func bytes -> bool bytes bool ; / get 0 / wipe / get 0 / has / get 0 / load", "x'61'", "false x'' false", 63, api.OK},
		{"func bytes -> ; / get 0 / wipe", "x'63'", "", 26, api.OK},
		{"func bytes -> ; / get 0 / wipe", most, "", 26, api.OK},
		{"func bytes -> ; / get 0 / wipe", long, "", 26, api.ErrLong},
		{"const x'' / func bytes -> bytes bool ; / get 0 / wipe / const 0 / next", "x'61'", "x'62' true", 47, api.OK},
	})
}

func TestP1303Emit(t *testing.T) {
	s := parse("const x'6b' / const x'' / func bytes -> int ; / const 0 / emit / get 0 / emit / const 1 / emit / call 1 / int 5 / func -> ; / int 7 / one / emit")
	want := slow.Result{Out: values("5"), Emits: []string{"k", "arg", "", "\a"}, Gas: 52}
	if r := wantSlow(t, s, []api.Value{value.Text("arg")}, store.New()); !same(r, want) {
		t.Errorf("%+v, want %+v", r, want)
	}
	for _, n := range []int{0, 1, api.MaxEmits - 1, api.MaxEmits, api.MaxEmits + 1, api.MaxEmits + 20} {
		want := slow.Result{Emits: slices.Repeat([]string{"k"}, n), Gas: 11 * n}
		if n > api.MaxEmits {
			want = slow.Result{Gas: 11 * (api.MaxEmits + 1), E: api.ErrEmit}
		}
		if r := wantSlow(t, parse("const x'6b' / func -> ;"+lines(n, "const 0 / emit")), nil, store.New()); !same(r, want) {
			t.Errorf("%d: %+v, want %+v", n, r, want)
		}
	}
}

func TestP1303If(t *testing.T) {
	nested := "func bool bool -> int ; / get 0 / if / get 1 / if / int 1 / else / int 2 / end / else / get 1 / if / int 3 / else / int 4 / end / end"
	alone := "func bool bool -> int ; int / get 0 / if / int 1 / set 2 / get 1 / if / get 2 / int 2 / add / set 2 / end / end / get 2"
	wantRows(t, store.New(), []row{
		{"func bool -> int ; / get 0 / if / int 1 / else / int 2 / end", "true", "1", 4, api.OK},
		{"func bool -> int ; / get 0 / if / int 1 / else / int 2 / end", "false", "2", 4, api.OK},
		{"func bool -> int ; / int 3 / get 0 / if / neg / end", "true", "-3", 5, api.OK},
		{"func bool -> int ; / int 3 / get 0 / if / neg / end", "false", "3", 3, api.OK},
		{"func bool -> ; / get 0 / if / end", "true", "", 3, api.OK},
		{"func bool -> ; / get 0 / if / end", "false", "", 2, api.OK},
		{"func bool -> ; / get 0 / if / else / end", "true", "", 3, api.OK},
		{"func bool -> ; / get 0 / if / else / end", "false", "", 3, api.OK},
		{nested, "true true", "1", 7, api.OK},
		{nested, "true false", "2", 7, api.OK},
		{nested, "false true", "3", 7, api.OK},
		{nested, "false false", "4", 7, api.OK},
		{alone, "true true", "3", 13, api.OK},
		{alone, "true false", "1", 8, api.OK},
		{alone, "false true", "0", 3, api.OK},
		{"func -> ;" + lines(api.MaxBlocks, "true / if") + lines(api.MaxBlocks, "end"), "", "", 3 * api.MaxBlocks, api.OK},
	})
}

func TestP1303Loop(t *testing.T) {
	wantRows(t, store.New(), []row{
		{"func -> int ; int / loop 1 / get 0 / int 1 / add / set 0 / end / get 0", "", "1", 8, api.OK},
		{"func -> int ; int / loop 2 / get 0 / int 1 / add / set 0 / end / get 0", "", "2", 13, api.OK},
		{"func -> int ; int / loop 64 / get 0 / int 1 / add / set 0 / end / get 0", "", "64", 323, api.OK},
		{"func -> int ; / int 0 / loop 64 / int 1 / add / end", "", "64", 195, api.OK},
		{"func -> ; / loop 1 / end", "", "", 3, api.OK},
		{"func -> ; / loop 64 / end", "", "", 66, api.OK},
		// within one another: the inner one goes round anew each time
		{"func -> int ; / int 0 / loop 3 / loop 4 / int 1 / add / end / end", "", "12", 3 + 3*(2+4*3+1), api.OK},
		{"func -> int ; / int 0 / loop 2 / loop 3 / loop 5 / int 1 / add / end / end / loop 7 / int 1 / add / end / end", "",
			"44", 3 + 2*(2+3*(2+5*3+1)+2+7*3+1), api.OK},
		{"func -> int ; / int 0" + lines(api.MaxBlocks, "loop 2") + " / int 1 / add" + lines(api.MaxBlocks, "end"), "",
			"256", 1 + 2*(1<<api.MaxBlocks-1) + 256*2 + (1<<(api.MaxBlocks+1) - 2), api.OK},
		// one behind the other
		{"func -> int ; / int 0 / loop 3 / int 1 / add / end / loop 4 / int 1 / add / end", "", "7", 1 + 2 + 9 + 2 + 12, api.OK},
		// an if within, whose end does not go round
		{"func bool -> int ; / int 0 / loop 3 / get 0 / if / int 1 / add / end / end", "true", "3", 3 + 3*6, api.OK},
		{"func bool -> int ; / int 0 / loop 3 / get 0 / if / int 1 / add / else / end / end", "false", "0", 3 + 3*4, api.OK},
		// and a loop within an if
		{"func bool -> int ; / int 0 / get 0 / if / loop 5 / int 1 / add / end / else / loop 3 / int 2 / add / end / end", "true", "5", 1 + 2 + 2 + 15 + 1, api.OK},
		{"func bool -> int ; / int 0 / get 0 / if / loop 5 / int 1 / add / end / else / loop 3 / int 2 / add / end / end", "false", "6", 1 + 2 + 2 + 9 + 1, api.OK},
	})
}

func TestP1303Leave(t *testing.T) {
	count := "func int -> int ; / int 0 / loop 9 / dup / get 0 / eq / leave / int 1 / add / end"
	wantRows(t, store.New(), []row{
		{count, "0", "0", 7, api.OK},
		{count, "1", "1", 14, api.OK},
		{count, "8", "8", 7 + 8*7, api.OK},
		{count, "9", "9", 3 + 9*7, api.OK},
		{"func -> ; / loop 9 / true / leave / end", "", "", 4, api.OK},
		{"func -> ; / loop 3 / false / leave / end", "", "", 11, api.OK},
		// the innermost loop alone is left
		{"func -> int ; / int 0 / loop 3 / int 1 / add / loop 5 / true / leave / end / end", "", "3", 3 + 3*(2+4+1), api.OK},
		// out of an if
		{"func bool -> int ; / int 0 / loop 5 / int 1 / add / get 0 / if / true / leave / end / end", "true", "1", 9, api.OK},
		{"func bool -> int ; / int 0 / loop 5 / int 1 / add / get 0 / if / true / leave / end / end", "false", "5", 3 + 5*5, api.OK},
		// a loop that was left goes round as often as ever when it comes again
		{"func -> int ; int / loop 2 / loop 3 / get 0 / int 1 / add / set 0 / get 0 / int 1 / eq / leave / end / end / get 0", "",
			"4", 2 + (2 + 8) + 1 + (2 + 3*9) + 1 + 1, api.OK},
		// a loop that was left in a called function leaves its caller's alone
		{"func -> int ; / int 0 / loop 4 / call 1 / add / end / func -> int ; / int 0 / loop 9 / int 1 / add / true / leave / end", "",
			"4", 3 + 4*(5+7+1+1), api.OK},
	})
}

func TestP1303Call(t *testing.T) {
	wantRows(t, store.New(), []row{
		{"func -> int ; / int 3 / call 1 / func int -> int ; / get 0 / neg", "", "-3", 8, api.OK},
		{"func -> ; / call 1 / func -> ;", "", "", 5, api.OK},
		{"func -> ; / loop 64 / call 1 / end / func -> ; / call 2 / func -> ; int", "", "", 2 + 64*11, api.OK},
		// arguments and results have their order, and what stands below stays
		{"func -> int int bool ; / int 9 / true / int 5 / call 1 / func bool int -> int bool ; / get 1 / get 0", "", "9 5 true", 10, api.OK},
		// each frame has slots of its own
		{"func int -> int int ; int / int 4 / set 1 / get 0 / call 1 / get 1 / func int -> int ; int / get 1 / int 8 / set 1 / int 2 / set 0",
			"6", "0 4", 2 + 1 + 5 + 1 + 5, api.OK},
		// which are zero anew each time, be it bytes, numbers or truths that were there
		{"func -> int int ; / call 1 / call 1 / func -> int ; int / get 0 / int 1 / add / set 0 / get 0", "", "1 1", 20, api.OK},
		{"const x'6162' / func -> int bytes bool ; / call 1 / call 2 / func -> ; bytes int bytes / const 0 / set 0 / int 7 / set 1 / const 0 / set 2 / func -> int bytes bool ; int bytes bool / get 0 / get 1 / get 2",
			"", "0 x'' false", 19, api.OK},
		// each frame has rounds of its own
		{"func -> int ; / int 0 / loop 3 / call 1 / add / end / func -> int ; / int 0 / loop 4 / int 1 / add / end", "",
			"12", 3 + 3*(5+3+4*3+1+1), api.OK},
		// a chain, and one that is called from two
		{"func -> int ; / call 1 / call 2 / add / func -> int ; / call 2 / call 2 / mul / func -> int ; / int 5", "", "30", 26, api.OK},
		// functions stand in the row in another order than they are called, and some are not
		{"func -> int ; / call 3 / func -> int ; / int 1 / func -> ; / abort / func -> int ; / call 1 / neg", "", "-1", 12, api.OK},
		// within branches and loops
		{"func int -> int ; / int 1 / loop 6 / get 0 / int 0 / gt / if / call 1 / else / int 100 / add / end / end / func int -> int ; / get 0 / int 2 / mul", "5",
			"64", 3 + 6*(4+5+4+1+1), api.OK},
	})
}
