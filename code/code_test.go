package code_test

import (
	"math"
	"math/rand"
	"slices"
	"strings"
	"testing"

	"weighhouse/api"
	"weighhouse/code"
	"weighhouse/op"
)

// named is a script, and what it is an example of.
type named struct {
	what string
	s    api.Script
}

// of answers a script of these functions, without constants.
func of(funcs ...api.Func) api.Script {
	return api.Script{Funcs: funcs}
}

// does answers a script with three constants and three functions, the first of
// which has two Params and two Locals, and does l.
func does(l ...api.Instr) api.Script {
	return api.Script{
		Consts: []string{"", "a", "key"},
		Funcs: []api.Func{
			{Params: []int{1, 2}, Results: []int{3}, Locals: []int{3, 1}, Code: l},
			{Params: []int{2}},
			{Results: []int{1, 1}, Code: []api.Instr{{Op: op.PushInt, A: 7}, {Op: op.Dup}}},
		},
	}
}

func times[T any](n int, x T) []T {
	return slices.Repeat([]T{x}, n)
}

// full answers the script that has as much of everything as may be.
func full() api.Script {
	f := api.Func{
		Params:  times(api.MaxTypes, api.Bytes),
		Results: times(api.MaxTypes, api.Bool),
		Locals:  times(api.MaxLocals-api.MaxTypes, api.Int),
		Code:    times(api.MaxCode, api.Instr{Op: op.PushInt, A: math.MinInt}),
	}
	s := api.Script{Consts: times(api.MaxConsts, strings.Repeat("k", api.MaxValue))}
	for range api.MaxFuncs {
		s.Funcs = append(s.Funcs, f)
	}
	return code.Clone(s)
}

// numbers are those at whose edges something may go wrong: some are what they
// would be as one byte, or as 32 bits.
func numbers() []int {
	return []int{
		math.MinInt, math.MinInt + 1, -1 << 32, -256, -255, -2, -1, 0, 1, 2, 3, 4, 5, 15, 16, 17, 31, 32, 33,
		63, 64, 65, 127, 128, 255, 256, 257, 258, 256 + 64, 65536, 1<<32 + 1, math.MaxInt - 1, math.MaxInt,
	}
}

// someScript answers one that may be, of all operations.
func someScript(rnd *rand.Rand) api.Script {
	s := api.Script{Funcs: make([]api.Func, 1+rnd.Intn(4))}
	for range rnd.Intn(4) {
		s.Consts = append(s.Consts, string(someBytes(rnd, rnd.Intn(4))))
	}
	for i := range s.Funcs {
		f := &s.Funcs[i]
		f.Params, f.Results, f.Locals = someTypes(rnd), someTypes(rnd), someTypes(rnd)
		for range rnd.Intn(12) {
			if in, ok := someInstr(rnd, s, *f); ok {
				f.Code = append(f.Code, in)
			}
		}
	}
	return s
}

func someBytes(rnd *rand.Rand, n int) []byte {
	b := make([]byte, n)
	rnd.Read(b)
	return b
}

func someTypes(rnd *rand.Rand) []int {
	l := make([]int, rnd.Intn(4))
	for i := range l {
		l[i] = 1 + rnd.Intn(3)
	}
	return l
}

func someInstr(rnd *rand.Rand, s api.Script, f api.Func) (api.Instr, bool) {
	in := api.Instr{Op: 1 + rnd.Intn(53)}
	switch in.Op {
	case op.PushInt:
		in.A = int(rnd.Uint64()) >> rnd.Intn(64)
	case op.PushConst:
		return someA(rnd, in, len(s.Consts))
	case op.Get, op.Set:
		return someA(rnd, in, len(f.Params)+len(f.Locals))
	case op.Call:
		return someA(rnd, in, len(s.Funcs))
	case op.Loops:
		in.A = 1 + rnd.Intn(64)
	}
	return in, true
}

func someA(rnd *rand.Rand, in api.Instr, count int) (api.Instr, bool) {
	if count == 0 {
		return in, false
	}
	in.A = rnd.Intn(count)
	return in, true
}

// others answers scripts that differ from s in one place each.
func others(s api.Script) []api.Script {
	var l []api.Script
	with := func(change func(*api.Script)) {
		c := copied(s)
		change(&c)
		l = append(l, c)
	}
	with(func(c *api.Script) { c.Consts = append(c.Consts, "") })
	with(func(c *api.Script) { c.Funcs = append(c.Funcs, api.Func{}) })
	for i := range s.Consts {
		with(func(c *api.Script) { c.Consts[i] += "\x00" })
		with(func(c *api.Script) { c.Consts = slices.Delete(c.Consts, i, i+1) })
	}
	for i, f := range s.Funcs {
		with(func(c *api.Script) { c.Funcs = slices.Delete(c.Funcs, i, i+1) })
		for k := range 3 {
			with(func(c *api.Script) { *types(c, i, k) = append(*types(c, i, k), 1) })
			for j := range *types(&s, i, k) {
				with(func(c *api.Script) { (*types(c, i, k))[j] = (*types(c, i, k))[j]%3 + 1 })
				with(func(c *api.Script) { *types(c, i, k) = slices.Delete(*types(c, i, k), j, j+1) })
			}
		}
		with(func(c *api.Script) { c.Funcs[i].Code = append(c.Funcs[i].Code, api.Instr{Op: op.End}) })
		for j := range f.Code {
			with(func(c *api.Script) { c.Funcs[i].Code[j].A++ })
			with(func(c *api.Script) { c.Funcs[i].Code[j].A-- })
			with(func(c *api.Script) { c.Funcs[i].Code[j].Op ^= 1 })
			with(func(c *api.Script) { c.Funcs[i].Code = slices.Delete(c.Funcs[i].Code, j, j+1) })
		}
	}
	return l
}

// types answers the Params, the Results or the Locals of function i.
func types(s *api.Script, i, which int) *[]int {
	f := &s.Funcs[i]
	return []*[]int{&f.Params, &f.Results, &f.Locals}[which]
}

// copied copies by hand, so that the tests of Clone don't lean on it.
func copied(s api.Script) api.Script {
	c := api.Script{Consts: append([]string{}, s.Consts...)}
	for _, f := range s.Funcs {
		c.Funcs = append(c.Funcs, api.Func{
			Params:  append([]int{}, f.Params...),
			Results: append([]int{}, f.Results...),
			Locals:  append([]int{}, f.Locals...),
			Code:    append([]api.Instr{}, f.Code...),
		})
	}
	return c
}

func TestP402Slots(t *testing.T) {
	for _, c := range []struct {
		what           string
		params, locals []int
		want           []int
	}{
		{"none", nil, nil, nil},
		{"empty ones", []int{}, []int{}, nil},
		{"Params", []int{1, 2}, nil, []int{1, 2}},
		{"Locals", nil, []int{3, 1}, []int{3, 1}},
		{"both", []int{1, 2}, []int{3, 1}, []int{1, 2, 3, 1}},
		{"what is no type", []int{-1, 0}, []int{4, math.MaxInt}, []int{-1, 0, 4, math.MaxInt}},
		{"more than may be", times(300, 2), times(300, 5), append(times(300, 2), times(300, 5)...)},
	} {
		f := api.Func{Params: c.params, Results: []int{2, 2}, Locals: c.locals, Code: []api.Instr{{Op: op.End}}}
		if got := code.Slots(f); !slices.Equal(got, c.want) {
			t.Errorf("%s: %v, want %v", c.what, got, c.want)
		}
	}
}

func TestP403Same(t *testing.T) {
	for _, x := range append(rightOnes(), wrongOnes()...) {
		if !code.Same(x.s, x.s) || !code.Same(x.s, copied(x.s)) || !code.Same(copied(x.s), x.s) {
			t.Error(x.what, "is not the same as itself")
		}
	}
	rnd := rand.New(rand.NewSource(403))
	for range 50 {
		s := someScript(rnd)
		for i, o := range others(s) {
			if code.Same(s, o) || code.Same(o, s) {
				t.Errorf("%d: %+v is not %+v", i, s, o)
			}
		}
	}
}

func TestP403SameOrder(t *testing.T) {
	end, drop := api.Instr{Op: op.End}, api.Instr{Op: op.Drop}
	f, g := api.Func{Params: []int{1, 2}}, api.Func{Params: []int{2, 1}}
	for _, c := range []struct {
		what string
		a, b api.Script
	}{
		{"constants turned round", api.Script{Consts: []string{"a", "b"}}, api.Script{Consts: []string{"b", "a"}}},
		{"constants parted elsewhere", api.Script{Consts: []string{"a", "bc"}}, api.Script{Consts: []string{"ab", "c"}}},
		{"functions turned round", of(f, g), of(g, f)},
		{"types turned round", of(f), of(g)},
		{"types in another list", of(f), of(api.Func{Locals: f.Params})},
		{"types parted elsewhere", of(api.Func{Params: []int{1}, Locals: []int{2}}), of(f)},
		{"instructions turned round", of(api.Func{Code: []api.Instr{end, drop}}), of(api.Func{Code: []api.Instr{drop, end}})},
		{"none, and a function of nothing", api.Script{}, of(api.Func{})},
		{"none, and a constant of nothing", api.Script{}, api.Script{Consts: []string{""}}},
	} {
		if code.Same(c.a, c.b) || code.Same(c.b, c.a) {
			t.Error(c.what)
		}
	}
}

func TestP403Clone(t *testing.T) {
	for _, x := range append(rightOnes(), wrongOnes()...) {
		if c := code.Clone(x.s); !code.Same(c, copied(x.s)) {
			t.Errorf("%s: %+v, want %+v", x.what, c, x.s)
		}
	}
}

// overwrite changes all that s holds, and the room behind its lists.
func overwrite(s api.Script) {
	wipe(s.Consts, "?")
	for _, f := range s.Funcs[:cap(s.Funcs)] {
		wipe(f.Params, 9)
		wipe(f.Results, 9)
		wipe(f.Locals, 9)
		wipe(f.Code, api.Instr{Op: 99, A: 99})
	}
	wipe(s.Funcs, api.Func{Params: []int{9}})
}

func wipe[T any](l []T, x T) {
	l = l[:cap(l)]
	for i := range l {
		l[i] = x
	}
}

// roomy answers s with room behind each list, and that room's own things.
func roomy(s api.Script) api.Script {
	c := copied(s)
	c.Consts = room(c.Consts, "room")
	for i := range c.Funcs {
		f := &c.Funcs[i]
		f.Params, f.Results, f.Locals = room(f.Params, 77), room(f.Results, 77), room(f.Locals, 77)
		f.Code = room(f.Code, api.Instr{Op: 77, A: 77})
	}
	c.Funcs = room(c.Funcs, api.Func{Params: []int{77}})
	return c
}

func room[T any](l []T, x T) []T {
	return append(slices.Clip(l), x, x)[:len(l)]
}

// wholeRoom answers s with the room behind its lists as parts of them.
func wholeRoom(s api.Script) api.Script {
	c := api.Script{Consts: s.Consts[:cap(s.Consts)], Funcs: slices.Clone(s.Funcs[:cap(s.Funcs)])}
	for i, f := range c.Funcs {
		c.Funcs[i] = api.Func{
			Params: f.Params[:cap(f.Params)], Results: f.Results[:cap(f.Results)],
			Locals: f.Locals[:cap(f.Locals)], Code: f.Code[:cap(f.Code)],
		}
	}
	return copied(c)
}

func TestP401NothingChanged(t *testing.T) {
	for _, x := range append(rightOnes(), wrongOnes()...) {
		s := roomy(x.s)
		kept := wholeRoom(s)
		code.Right(s)
		b, err := code.Put(s)
		code.Same(s, s)
		overwrite(code.Clone(s))
		for _, f := range s.Funcs {
			wipe(code.Slots(f), 9)
		}
		if !code.Same(wholeRoom(s), kept) {
			t.Error(x.what, "changed")
		}
		if err == api.OK {
			overwrite(s)
			wantScript(t, x.what, b, x.s)
		}
	}
}

func TestP401CloneSharesNothing(t *testing.T) {
	for _, x := range append(rightOnes(), wrongOnes()...) {
		s := roomy(x.s)
		c, d := code.Clone(s), code.Clone(s)
		overwrite(s)
		overwrite(d)
		if !code.Same(c, x.s) {
			t.Error(x.what, "shares memory with its clone")
		}
	}
}

// TestP401ListsShareNothing: the lists of one answer are changed one by one,
// with the room behind them; no other one changes.
func TestP401ListsShareNothing(t *testing.T) {
	s := does(api.Instr{Op: op.Get, A: 3}, api.Instr{Op: op.End})
	b, _ := code.Put(s)
	got, _ := code.Get(b)
	for what, a := range map[string]api.Script{"Clone": code.Clone(s), "Get": got} {
		for i := range a.Funcs {
			for k := range 3 {
				l := types(&a, i, k)
				wipe(*l, 9)
				*l = *types(&s, i, k)
				if !code.Same(a, s) {
					t.Error(what, "shares memory between lists:", i, k)
				}
			}
			wipe(a.Funcs[i].Code, api.Instr{Op: 9})
			a.Funcs[i].Code = s.Funcs[i].Code
			if !code.Same(a, s) {
				t.Error(what, "shares memory between lists:", i)
			}
		}
	}
}

func TestP401SlotsShareNothing(t *testing.T) {
	for _, f := range []api.Func{
		{Params: []int{1, 2}},
		{Locals: []int{1, 2}},
		{Params: room([]int{1}, 7), Locals: []int{2}},
	} {
		a, b := code.Slots(f), code.Slots(f)
		wipe(a, 9)
		if !slices.Equal(b, []int{1, 2}) || !slices.Equal(code.Slots(f), []int{1, 2}) {
			t.Error("answers of Slots share memory:", f, b)
		}
	}
}

func TestP401NilIsEmpty(t *testing.T) {
	empty := api.Func{Params: []int{}, Results: []int{}, Locals: []int{}, Code: []api.Instr{}}
	none := api.Script{Consts: []string{}, Funcs: []api.Func{}}
	if !code.Same(none, api.Script{}) || !code.Same(api.Script{}, none) || !code.Same(code.Clone(none), api.Script{}) {
		t.Error("no constants and functions")
	}
	if code.Right(none) || code.Right(api.Script{}) {
		t.Error("no function: Right")
	}
	a, b := of(api.Func{}), api.Script{Consts: []string{}, Funcs: []api.Func{empty}}
	if !code.Same(a, b) || !code.Same(b, a) || !code.Right(a) || !code.Right(b) {
		t.Error("a function of nothing")
	}
	p, _ := code.Put(a)
	q, _ := code.Put(b)
	if !slices.Equal(p, q) {
		t.Error("bytes of a function of nothing:", p, q)
	}
	for _, b := range [][]byte{nil, {}} {
		wantNoScript(t, "no bytes", b)
	}
}
