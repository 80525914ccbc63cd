package slow_test

import (
	"fmt"
	"slices"
	"strings"
	"testing"

	"weighhouse/api"
	"weighhouse/asm"
	"weighhouse/op"
	"weighhouse/slow"
	"weighhouse/store"
	"weighhouse/value"
)

// parse answers the script of a text whose lines are parted by " / ".
func parse(text string) api.Script {
	s, bad := asm.Parse(strings.ReplaceAll(text, " / ", "\n") + "\n")
	if bad != 0 {
		panic(fmt.Sprintf("%q: line %d", text, bad))
	}
	return s
}

func values(text string) []api.Value {
	l, e := value.Parse(text)
	if e != api.OK {
		panic(text)
	}
	return l
}

// stored answers a store of keys and values.
func stored(t *testing.T, l ...string) *store.Store {
	t.Helper()
	s := store.New()
	for i := 0; i < len(l); i += 2 {
		if e := s.Put(l[i], l[i+1]); e != api.OK {
			t.Fatalf("Put(%q, %q): error %d", l[i], l[i+1], e)
		}
	}
	return s
}

// shown answers what a transaction shows, keys and values, by Next and Load.
func shown(x *store.Tx) (l []string) {
	if v, ok := x.Load(""); ok {
		l = append(l, "", v)
	}
	for k, ok := x.Next(""); ok; k, ok = x.Next(k) {
		v, _ := x.Load(k)
		l = append(l, k, v)
	}
	return l
}

func same(a, b slow.Result) bool {
	return slices.Equal(a.Out, b.Out) && slices.Equal(a.Emits, b.Emits) && a.Gas == b.Gas && a.E == b.E
}

// wantResult runs s on a new transaction of the store with no more limit than
// it needs, with more, and with one less: there it has no gas left at last.
func wantResult(t *testing.T, s api.Script, args []api.Value, on *store.Store, want slow.Result) {
	t.Helper()
	for _, limit := range []int{want.Gas, want.Gas + 1, want.Gas + 1000, api.MaxGas} {
		if limit > api.MaxGas {
			continue
		}
		if r := slow.Run(s, args, store.Begin(on), limit); !same(r, want) {
			t.Errorf("%q of %v, limit %d: %+v, want %+v", asm.Print(s), args, limit, r, want)
		}
	}
	if want.Gas == 0 {
		return
	}
	short := slow.Result{Gas: want.Gas - 1, E: api.ErrGas}
	if r := slow.Run(s, args, store.Begin(on), want.Gas-1); !same(r, short) {
		t.Errorf("%q of %v, limit %d: %+v, want %+v", asm.Print(s), args, want.Gas-1, r, short)
	}
}

// row is a run: a script and arguments as texts, and what it comes to.
type row struct {
	text, args, out string
	gas             int
	e               api.Errno
}

func wantRows(t *testing.T, on *store.Store, l []row) {
	t.Helper()
	for _, c := range l {
		wantResult(t, parse(c.text), values(c.args), on, slow.Result{Out: values(c.out), Gas: c.gas, E: c.e})
	}
}

func TestP1202Example(t *testing.T) {
	wantRows(t, store.New(), []row{{"func -> int ; / int 6 / int 7 / mul", "", "42", 4, api.OK}})
}

func TestP1202Stack(t *testing.T) {
	wantRows(t, store.New(), []row{
		{"func -> ;", "", "", 0, api.OK},
		{"func -> int ; / int -9223372036854775808", "", "-9223372036854775808", 1, api.OK},
		{"const x'61' / const x'' / func -> bytes bytes ; / const 1 / const 0", "", "x'' x'61'", 2, api.OK},
		{"func -> int ; / int 1 / int 2 / drop", "", "1", 3, api.OK},
		{"func -> int bool bool ; / int 1 / true / dup", "", "1 true true", 3, api.OK},
		{"func -> int bool int ; / int 1 / int 2 / true / swap", "", "1 true 2", 4, api.OK},
		{"func -> int int bool int ; / int 1 / int 2 / true / over", "", "1 2 true 2", 4, api.OK},
		{"func int bytes bool -> bool bytes int ; / get 2 / get 1 / get 0", "-3 x'ff' true", "true x'ff' -3", 3, api.OK},
		{"func -> int bytes bool ; int bytes bool / get 0 / get 1 / get 2", "", "0 x'' false", 3, api.OK},
		{"func int -> int int ; int / int 7 / set 1 / get 0 / get 1", "5", "5 7", 4, api.OK},
		{"func int -> int ; / int 7 / set 0 / get 0", "5", "7", 3, api.OK},
		{"func bool -> bool ; / get 0 / not / set 0 / get 0", "true", "false", 4, api.OK},
		{"func -> int int int int int int int int ; / int 1 / int 2 / int 3 / int 4 / int 5 / int 6 / int 7 / int 8", "", "1 2 3 4 5 6 7 8", 8, api.OK},
		{"func int int int int int int int int -> int int ; / get 7 / get 0", "1 2 3 4 5 6 7 8", "8 1", 2, api.OK},
		{"func -> bool bool ; / true / false", "", "true false", 2, api.OK},
	})
}

// push answers an instruction that puts a value there: s gets a constant for
// bytes.
func push(s *api.Script, v api.Value) api.Instr {
	switch v.Type {
	case api.Int:
		return api.Instr{Op: op.PushInt, A: v.N}
	case api.Bytes:
		s.Consts = append(s.Consts, v.B)
		return api.Instr{Op: op.PushConst, A: len(s.Consts) - 1}
	}
	if v.N == 1 {
		return api.Instr{Op: op.True}
	}
	return api.Instr{Op: op.False}
}

// on answers a script that puts these values there, and does x then.
func on(x api.Instr, results []int, l ...api.Value) api.Script {
	var s api.Script
	var c []api.Instr
	for _, v := range l {
		c = append(c, push(&s, v))
	}
	s.Funcs = []api.Func{{Results: results, Code: append(c, x)}}
	return s
}

// samples are some values of each type.
func samples(kind int) []api.Value {
	switch kind {
	case api.Int:
		return values("0 1 2 -1 63 -9223372036854775808 9223372036854775807")
	case api.Bytes:
		return append(values("x'' x'61' x'616263' x'ffffffffffffffff' x'000000000000000000'"), value.Text(strings.Repeat("v", api.MaxValue)))
	}
	return values("true false")
}

// lists answers all lists of samples of these types.
func lists(kinds []int) [][]api.Value {
	all := [][]api.Value{nil}
	for _, kind := range kinds {
		var longer [][]api.Value
		for _, l := range all {
			for _, v := range samples(kind) {
				longer = append(longer, append(slices.Clone(l), v))
			}
		}
		all = longer
	}
	return all
}

// costs has what the table of chapter 3 says of those that do not cost 1.
var costs = map[string]int{
	"mul": 2, "div": 4, "rem": 4, "join": 6, "cut": 6, "at": 2, "same": 4, "less": 4, "pack": 3, "unpack": 3, "one": 2,
	"load": 20, "has": 15, "save": 30, "wipe": 25, "next": 20, "emit": 10, "loop": 2, "call": 5,
}

func cost(n int) int {
	return max(costs[op.Name(n)], 1)
}

// TestP1202Plain: each plain operation on many values: Apply's answer is put,
// or its error ends the run.
func TestP1202Plain(t *testing.T) {
	told := map[api.Errno]int{}
	for n := op.PushInt; n <= op.Call; n++ {
		if !op.Plain(n) {
			continue
		}
		for _, l := range lists(op.In(n)) {
			out, e := op.Apply(n, l...)
			told[e]++
			wantResult(t, on(api.Instr{Op: n}, op.Out(n), l...), nil, store.New(), slow.Result{Out: out, Gas: len(l) + cost(n), E: e})
			if t.Failed() {
				return
			}
		}
	}
	for _, e := range []api.Errno{api.OK, api.ErrZero, api.ErrLong, api.ErrIndex} {
		if told[e] < 5 {
			t.Errorf("error %d is told %d times", e, told[e])
		}
	}
}

func TestP1202Store(t *testing.T) {
	long := "x'" + strings.Repeat("6b", api.MaxKey+1) + "'"
	most := "x'" + strings.Repeat("6b", api.MaxKey) + "'"
	wantRows(t, stored(t, "a", "1", "b", "", "d", "4"), []row{
		{"func bytes -> bytes bool ; / get 0 / load", "x'61'", "x'31' true", 21, api.OK},
		{"func bytes -> bytes bool ; / get 0 / load", "x'62'", "x'' true", 21, api.OK},
		{"func bytes -> bytes bool ; / get 0 / load", "x'63'", "x'' false", 21, api.OK},
		{"func bytes -> bytes bool ; / get 0 / load", "x''", "x'' false", 21, api.OK},
		{"func bytes -> bytes bool ; / get 0 / load", long, "x'' false", 21, api.OK},
		{"func bytes -> bool ; / get 0 / has", "x'61'", "true", 16, api.OK},
		{"func bytes -> bool ; / get 0 / has", "x'62'", "true", 16, api.OK},
		{"func bytes -> bool ; / get 0 / has", "x'63'", "false", 16, api.OK},
		{"func bytes -> bool ; / get 0 / has", long, "false", 16, api.OK},
		{"func bytes -> bytes bool ; / get 0 / next", "x''", "x'61' true", 21, api.OK},
		{"func bytes -> bytes bool ; / get 0 / next", "x'61'", "x'62' true", 21, api.OK},
		{"func bytes -> bytes bool ; / get 0 / next", "x'63'", "x'64' true", 21, api.OK},
		{"func bytes -> bytes bool ; / get 0 / next", "x'64'", "x'' false", 21, api.OK},
		{"func bytes -> bytes bool ; / get 0 / next", long, "x'' false", 21, api.OK},
		{"func bytes bytes -> bytes bool ; / get 0 / get 1 / save / get 0 / load", "x'63' x'33'", "x'33' true", 53, api.OK},
		{"func bytes bytes -> bytes bool ; / get 0 / get 1 / save / get 0 / load", "x'61' x''", "x'' true", 53, api.OK},
		{"func bytes bytes -> bytes bool ; / get 0 / get 1 / save / get 0 / load", most + " x'33'", "x'33' true", 53, api.OK},
		{"func bytes bytes -> ; / get 0 / get 1 / save", long + " x'33'", "", 32, api.ErrLong},
		{"func bytes -> bool bytes bool ; / get 0 / wipe / get 0 / has / get 0 / load", "x'61'", "false x'' false", 63, api.OK},
		{"func bytes -> ; / get 0 / wipe", "x'63'", "", 26, api.OK},
		{"func bytes -> ; / get 0 / wipe", most, "", 26, api.OK},
		{"func bytes -> ; / get 0 / wipe", long, "", 26, api.ErrLong},
		{"const x'' / func bytes -> bytes bool ; / get 0 / wipe / const 0 / next", "x'61'", "x'62' true", 47, api.OK},
	})
}

// TestP1202LongValue: a value of MaxValue bytes goes into the store and comes
// out again.
func TestP1202LongValue(t *testing.T) {
	v := value.Text(strings.Repeat("v", api.MaxValue))
	s := parse("func bytes bytes -> bytes bool ; / get 0 / get 1 / save / get 0 / load")
	wantResult(t, s, []api.Value{value.Text("k"), v}, store.New(), slow.Result{Out: []api.Value{v, value.Truth(true)}, Gas: 53})
}

func TestP1202Emit(t *testing.T) {
	s := parse("const x'6b' / const x'' / func bytes -> int ; / const 0 / emit / get 0 / emit / const 1 / emit / const 0 / emit / int 5")
	want := slow.Result{Out: values("5"), Emits: []string{"k", "arg", "", "k"}, Gas: 45}
	wantResult(t, s, []api.Value{value.Text("arg")}, store.New(), want)
	s = parse("const x'6b' / func -> ; / call 1 / const 0 / emit / func -> ; / int 7 / one / emit")
	wantResult(t, s, nil, store.New(), slow.Result{Emits: []string{"\a", "k"}, Gas: 29})
}

func TestP1202Abort(t *testing.T) {
	wantRows(t, store.New(), []row{
		{"func -> ; / abort", "", "", 1, api.ErrAbort},
		{"const x'6b' / func -> int ; / const 0 / emit / int 1 / abort / drop", "", "", 13, api.ErrAbort},
		{"func -> ; / call 1 / func -> ; / loop 3 / abort / end", "", "", 8, api.ErrAbort},
		{"func bool -> ; / get 0 / if / abort / end", "false", "", 2, api.OK},
	})
}

func TestP1202If(t *testing.T) {
	nested := "func bool bool -> int ; / get 0 / if / get 1 / if / int 1 / else / int 2 / end / else / get 1 / if / int 3 / else / int 4 / end / end"
	alone := "func bool bool -> int ; int / get 0 / if / int 1 / set 2 / get 1 / if / get 2 / int 2 / add / set 2 / end / end / get 2"
	wantRows(t, store.New(), []row{
		{"func bool -> int ; / get 0 / if / int 1 / else / int 2 / end", "true", "1", 4, api.OK},
		{"func bool -> int ; / get 0 / if / int 1 / else / int 2 / end", "false", "2", 4, api.OK},
		{"func bool -> int ; / int 3 / get 0 / if / neg / end", "true", "-3", 5, api.OK},
		{"func bool -> int ; / int 3 / get 0 / if / neg / end", "false", "3", 3, api.OK},
		{"func bool -> ; / get 0 / if / end", "true", "", 3, api.OK},
		{"func bool -> ; / get 0 / if / end", "false", "", 2, api.OK},
		{"func bool -> ; / get 0 / if / else / end", "true", "", 3, api.OK},
		{"func bool -> ; / get 0 / if / else / end", "false", "", 3, api.OK},
		{nested, "true true", "1", 7, api.OK},
		{nested, "true false", "2", 7, api.OK},
		{nested, "false true", "3", 7, api.OK},
		{nested, "false false", "4", 7, api.OK},
		{alone, "true true", "3", 13, api.OK},
		{alone, "true false", "1", 8, api.OK},
		{alone, "false true", "0", 3, api.OK},
	})
}

func TestP1202Loop(t *testing.T) {
	wantRows(t, store.New(), []row{
		{"func -> int ; int / loop 1 / get 0 / int 1 / add / set 0 / end / get 0", "", "1", 8, api.OK},
		{"func -> int ; int / loop 2 / get 0 / int 1 / add / set 0 / end / get 0", "", "2", 13, api.OK},
		{"func -> int ; int / loop 64 / get 0 / int 1 / add / set 0 / end / get 0", "", "64", 323, api.OK},
		{"func -> int ; / int 0 / loop 64 / int 1 / add / end", "", "64", 195, api.OK},
		{"func -> ; / loop 64 / end", "", "", 66, api.OK},
		// within one another: the inner one goes round anew each time
		{"func -> int ; / int 0 / loop 3 / loop 4 / int 1 / add / end / end", "", "12", 3 + 3*(2+4*3+1), api.OK},
		{"func -> int ; / int 0 / loop 2 / loop 3 / loop 5 / int 1 / add / end / end / loop 7 / int 1 / add / end / end", "",
			"44", 3 + 2*(2+3*(2+5*3+1)+2+7*3+1), api.OK},
		// one behind the other
		{"func -> int ; / int 0 / loop 3 / int 1 / add / end / loop 4 / int 1 / add / end", "", "7", 1 + 2 + 9 + 2 + 12, api.OK},
		// an if within, whose end does not go round
		{"func bool -> int ; / int 0 / loop 3 / get 0 / if / int 1 / add / end / end", "true", "3", 3 + 3*6, api.OK},
		{"func bool -> int ; / int 0 / loop 3 / get 0 / if / int 1 / add / else / end / end", "false", "0", 3 + 3*4, api.OK},
	})
}

func TestP1202Leave(t *testing.T) {
	count := "func int -> int ; / int 0 / loop 9 / dup / get 0 / eq / leave / int 1 / add / end"
	wantRows(t, store.New(), []row{
		{count, "0", "0", 7, api.OK},
		{count, "1", "1", 14, api.OK},
		{count, "8", "8", 7 + 8*7, api.OK},
		{count, "9", "9", 3 + 9*7, api.OK},
		{"func -> ; / loop 9 / true / leave / end", "", "", 4, api.OK},
		{"func -> ; / loop 3 / false / leave / end", "", "", 11, api.OK},
		// the innermost loop alone is left
		{"func -> int ; / int 0 / loop 3 / int 1 / add / loop 5 / true / leave / end / end", "", "3", 3 + 3*(2+4+1), api.OK},
		// out of an if
		{"func bool -> int ; / int 0 / loop 5 / int 1 / add / get 0 / if / true / leave / end / end", "true", "1", 9, api.OK},
		{"func bool -> int ; / int 0 / loop 5 / int 1 / add / get 0 / if / true / leave / end / end", "false", "5", 3 + 5*5, api.OK},
		// a loop that was left goes round as often as ever when it comes again
		{"func -> int ; int / loop 2 / loop 3 / get 0 / int 1 / add / set 0 / get 0 / int 1 / eq / leave / end / end / get 0", "",
			"4", 2 + (2 + 8) + 1 + (2 + 3*9) + 1 + 1, api.OK},
	})
}

func TestP1202Call(t *testing.T) {
	wantRows(t, store.New(), []row{
		{"func -> int ; / int 3 / call 1 / func int -> int ; / get 0 / neg", "", "-3", 8, api.OK},
		{"func -> ; / call 1 / func -> ;", "", "", 5, api.OK},
		// arguments and results have their order, and what stands below stays
		{"func -> int int bool ; / int 9 / true / int 5 / call 1 / func bool int -> int bool ; / get 1 / get 0", "", "9 5 true", 10, api.OK},
		// each frame has slots of its own
		{"func int -> int int ; int / int 4 / set 1 / get 0 / call 1 / get 1 / func int -> int ; int / get 1 / int 8 / set 1 / int 2 / set 0",
			"6", "0 4", 2 + 1 + 5 + 1 + 5, api.OK},
		{"func -> int int ; / call 1 / call 1 / func -> int ; int / get 0 / int 1 / add / set 0 / get 0", "", "1 1", 20, api.OK},
		// each frame has rounds of its own
		{"func -> int ; / int 0 / loop 3 / call 1 / add / end / func -> int ; / int 0 / loop 4 / int 1 / add / end", "",
			"12", 3 + 3*(5+3+4*3+1+1), api.OK},
		// a chain, and one that is called from two
		{"func -> int ; / call 1 / call 2 / add / func -> int ; / call 2 / call 2 / mul / func -> int ; / int 5", "", "30", 26, api.OK},
		// a function that calls itself
		{"func int -> int ; / get 0 / int 2 / lt / if / int 1 / else / get 0 / int 1 / sub / call 0 / get 0 / mul / end", "5", "120", 4*16 + 6, api.OK},
	})
}
