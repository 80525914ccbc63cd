package code_test

import (
	"bytes"
	"encoding/binary"
	"math/rand"
	"strings"
	"testing"

	"weighhouse/api"
	"weighhouse/code"
	"weighhouse/op"
)

// handBytes writes a script by the chapter's words, also one that may not be;
// ok is false if a number does not fit into the bytes that it has.
func handBytes(s api.Script) (b []byte, ok bool) {
	ok = true
	short := func(n int) {
		ok = ok && n >= 0 && n <= 255
		b = append(b, byte(n))
	}
	short(len(s.Consts))
	for _, c := range s.Consts {
		ok = ok && len(c) < 65536
		b = append(binary.BigEndian.AppendUint16(b, uint16(len(c))), c...)
	}
	short(len(s.Funcs))
	for _, f := range s.Funcs {
		for _, l := range [][]int{f.Params, f.Results, f.Locals} {
			short(len(l))
			for _, n := range l {
				short(n)
			}
		}
		ok = ok && len(f.Code) < 65536
		b = binary.BigEndian.AppendUint16(b, uint16(len(f.Code)))
		for _, in := range f.Code {
			short(in.Op)
			switch kindOfA(in.Op) {
			case "none":
				ok = ok && in.A == 0
			case "number":
				b = binary.BigEndian.AppendUint64(b, uint64(in.A))
			default:
				short(in.A)
			}
		}
	}
	return b, ok
}

func put(t *testing.T, what string, s api.Script) []byte {
	t.Helper()
	b, err := code.Put(s)
	if err != api.OK {
		t.Errorf("%s: Put: %d", what, err)
	}
	return b
}

func wantNotPut(t *testing.T, what string, s api.Script) {
	t.Helper()
	if b, err := code.Put(s); err != api.ErrScript || len(b) != 0 {
		t.Errorf("%s: Put: %d bytes, %d", what, len(b), err)
	}
}

func wantScript(t *testing.T, what string, b []byte, want api.Script) {
	t.Helper()
	s, err := code.Get(b)
	if err != api.OK || !code.Same(s, want) {
		t.Errorf("%s: Get: %+v, %d, want %+v", what, s, err, want)
	}
}

func wantNoScript(t *testing.T, what string, b []byte) {
	t.Helper()
	s, err := code.Get(b)
	if err != api.ErrScript || len(s.Consts) != 0 || len(s.Funcs) != 0 {
		t.Errorf("%s: Get: %+v, %d", what, s, err)
	}
}

func TestP402Bytes(t *testing.T) {
	for _, c := range []struct {
		what string
		s    api.Script
		want []byte
	}{
		{"a function of nothing", of(api.Func{}), []byte{0, 1, 0, 0, 0, 0, 0}},
		{"two", of(api.Func{}, api.Func{}), []byte{0, 2, 0, 0, 0, 0, 0, 0, 0, 0, 0, 0}},
		{"a constant", api.Script{Consts: []string{"ab", ""}, Funcs: []api.Func{{}}}, []byte{2, 0, 2, 'a', 'b', 0, 0, 1, 0, 0, 0, 0, 0}},
		{"types", of(api.Func{Params: []int{1, 2}, Results: []int{3}, Locals: []int{2, 2, 1}}), []byte{0, 1, 2, 1, 2, 1, 3, 3, 2, 2, 1, 0, 0}},
		{"none", of(api.Func{Code: []api.Instr{{Op: op.True}, {Op: op.Drop}}}), []byte{0, 1, 0, 0, 0, 0, 2, 3, 5}},
		{"a number", of(api.Func{Code: []api.Instr{{Op: op.PushInt, A: 258}, {Op: op.Drop}}}),
			[]byte{0, 1, 0, 0, 0, 0, 2, 1, 0, 0, 0, 0, 0, 0, 1, 2, 5}},
		{"a number below 0", of(api.Func{Code: []api.Instr{{Op: op.PushInt, A: -2}}}),
			[]byte{0, 1, 0, 0, 0, 0, 1, 1, 255, 255, 255, 255, 255, 255, 255, 254}},
		{"a const", api.Script{Consts: []string{"", ""}, Funcs: []api.Func{{Code: []api.Instr{{Op: op.PushConst, A: 1}}}}},
			[]byte{2, 0, 0, 0, 0, 1, 0, 0, 0, 0, 1, 2, 1}},
		{"locals", of(api.Func{Params: []int{1}, Locals: []int{2}, Code: []api.Instr{{Op: op.Get, A: 1}, {Op: op.Set}}}),
			[]byte{0, 1, 1, 1, 0, 1, 2, 0, 2, 9, 1, 10, 0}},
		{"a loop", of(api.Func{Code: []api.Instr{{Op: op.Loops, A: 64}, {Op: op.End}}}), []byte{0, 1, 0, 0, 0, 0, 2, 51, 64, 50}},
		{"a call", of(api.Func{Code: []api.Instr{{Op: op.Call, A: 1}}}, api.Func{Results: []int{1}}),
			[]byte{0, 2, 0, 0, 0, 0, 1, 53, 1, 0, 1, 1, 0, 0, 0}},
		{"MaxCode instructions", of(api.Func{Code: times(256, api.Instr{Op: op.Not})}),
			append([]byte{0, 1, 0, 0, 0, 1, 0}, bytes.Repeat([]byte{31}, 256)...)},
		{"a constant of MaxValue bytes", api.Script{Consts: []string{strings.Repeat("k", 256)}, Funcs: []api.Func{{}}},
			append(append([]byte{1, 1, 0}, bytes.Repeat([]byte{'k'}, 256)...), 1, 0, 0, 0, 0, 0)},
	} {
		if b := put(t, c.what, c.s); !bytes.Equal(b, c.want) {
			t.Errorf("%s: %v, want %v", c.what, b, c.want)
		}
		wantScript(t, c.what, c.want, c.s)
	}
}

func TestP402RightBytes(t *testing.T) {
	for _, x := range rightOnes() {
		want, ok := handBytes(x.s)
		if b := put(t, x.what, x.s); !ok || !bytes.Equal(b, want) {
			t.Errorf("%s: %v, want %v", x.what, b, want)
		}
		wantScript(t, x.what, want, x.s)
	}
}

func TestP402WrongScripts(t *testing.T) {
	told := 0
	for _, x := range wrongOnes() {
		wantNotPut(t, x.what, x.s)
		if b, ok := handBytes(x.s); ok {
			wantNoScript(t, x.what, b)
			told++
		}
	}
	if told < 100 {
		t.Error("wrong scripts that have bytes at all:", told)
	}
}

func TestP402WrongBytes(t *testing.T) {
	for what, b := range map[string][]byte{
		"a zero":                           {0},
		"no function":                      {0, 0},
		"a length of no text":              {1, 0},
		"a text that ends too early":       {1, 0, 2, 'a'},
		"a huge text":                      {1, 255, 255, 'a', 1, 0, 0, 0, 0, 0},
		"constants, and nothing else":      {1, 0, 1, 'a'},
		"more functions than there are":    {0, 2, 0, 0, 0, 0, 0},
		"fewer functions than there are":   {0, 1, 0, 0, 0, 0, 0, 0, 0, 0, 0, 0},
		"255 functions":                    {0, 255, 0, 0, 0, 0, 0},
		"types that end too early":         {0, 1, 3, 1, 2},
		"a type 0":                         {0, 1, 1, 0, 0, 0, 0, 0},
		"a type 4":                         {0, 1, 0, 1, 4, 0, 0, 0},
		"a type 255":                       {0, 1, 0, 0, 1, 255, 0, 0},
		"a count of instructions cut":      {0, 1, 0, 0, 0, 0},
		"a lower byte first":               {0, 1, 0, 0, 0, 1, 0, 5},
		"65535 instructions":               {0, 1, 0, 0, 0, 255, 255, 5, 5},
		"an operation 0":                   {0, 1, 0, 0, 0, 0, 1, 0},
		"an operation 54":                  {0, 1, 0, 0, 0, 0, 1, 54},
		"an operation 54 with a number":    {0, 1, 0, 0, 0, 0, 1, 54, 0},
		"an operation 255":                 {0, 1, 0, 0, 0, 0, 1, 255},
		"a number of nothing":              {0, 1, 0, 0, 0, 0, 1, 1},
		"a number of seven bytes":          {0, 1, 0, 0, 0, 0, 1, 1, 0, 0, 0, 0, 0, 0, 0},
		"a number where none is taken":     {0, 1, 0, 0, 0, 0, 1, 5, 0},
		"a loop of no number":              {0, 1, 0, 0, 0, 0, 1, 51},
		"a loop of 0":                      {0, 1, 0, 0, 0, 0, 1, 51, 0},
		"a loop of 65":                     {0, 1, 0, 0, 0, 0, 1, 51, 65},
		"a loop of 255":                    {0, 1, 0, 0, 0, 0, 1, 51, 255},
		"a call of a function not there":   {0, 1, 0, 0, 0, 0, 1, 53, 1},
		"a constant that is not there":     {0, 1, 0, 0, 0, 0, 1, 2, 0},
		"a place that is not there":        {0, 1, 0, 0, 0, 0, 1, 9, 0},
		"a number in the constants' stead": {255, 255, 255, 255, 255, 255, 255, 255, 255},
	} {
		wantNoScript(t, what, b)
	}
	wantNoScript(t, "zeros", make([]byte, 1<<16))
	wantNoScript(t, "many bytes", bytes.Repeat([]byte{255}, 1<<21))
	wantNoScript(t, "as many instructions as can be said",
		append([]byte{0, 255}, bytes.Repeat(append([]byte{0, 0, 0, 255, 255}, bytes.Repeat([]byte{5}, 65535)...), 255)...))
}

func TestP404ThereAndBack(t *testing.T) {
	for _, x := range rightOnes() {
		wantScript(t, x.what, put(t, x.what, x.s), x.s)
	}
	rnd := rand.New(rand.NewSource(404))
	for range 3000 {
		s := someScript(rnd)
		b := put(t, "some script", s)
		if want, _ := handBytes(s); !bytes.Equal(b, want) {
			t.Fatalf("%+v: %v, want %v", s, b, want)
		}
		wantScript(t, "some script", b, s)
	}
}

func TestP405CutShortOrMore(t *testing.T) {
	for _, x := range rightOnes() {
		b := put(t, x.what, x.s)
		step := 1 + len(b)/500
		for n := 0; n < len(b); n += step {
			wantNoScript(t, x.what+" cut short", b[:n])
		}
		wantNoScript(t, x.what+" without its last byte", b[:len(b)-1])
		for _, more := range [][]byte{{0}, {1}, {5}, {255}, {0, 0, 0, 0, 0}, b} {
			wantNoScript(t, x.what+" and more", append(bytes.Clone(b), more...))
		}
	}
}

func TestP405UnlikeBytes(t *testing.T) {
	rnd := rand.New(rand.NewSource(405))
	for range 200 {
		s := someScript(rnd)
		b := put(t, "some script", s)
		for _, o := range others(s) {
			if !code.Right(o) {
				continue
			}
			if bytes.Equal(b, put(t, "another script", o)) {
				t.Errorf("%+v and %+v have the same bytes", s, o)
			}
		}
	}
}

// TestP405OneOtherByte: bytes of which one is another are none, or another
// script's.
func TestP405OneOtherByte(t *testing.T) {
	rnd := rand.New(rand.NewSource(406))
	for range 300 {
		s := someScript(rnd)
		b := put(t, "some script", s)
		for i := range b {
			c := bytes.Clone(b)
			c[i] ^= byte(1 + rnd.Intn(255))
			wantWrittenBack(t, c)
			if o, err := code.Get(c); err == api.OK && code.Same(s, o) {
				t.Errorf("%v and %v are both %+v", b, c, s)
			}
		}
	}
}

// wantWrittenBack: b is none, or the bytes of a script that may be.
func wantWrittenBack(t *testing.T, b []byte) {
	t.Helper()
	s, err := code.Get(b)
	if err != api.OK {
		wantNoScript(t, "what is none", b)
		return
	}
	if again := put(t, "what was read", s); !code.Right(s) || !bytes.Equal(again, b) {
		t.Errorf("%v is read as %+v, and written as %v", b, s, again)
	}
}

func TestP401GetSharesNothing(t *testing.T) {
	s := does(api.Instr{Op: op.PushConst, A: 2}, api.Instr{Op: op.Get, A: 1})
	b := put(t, "a script", s)
	kept := bytes.Clone(b)
	in := append(bytes.Clone(b), 1, 2, 3)
	x, _ := code.Get(in[:len(b)])
	y, _ := code.Get(in[:len(b)])
	if !bytes.Equal(in, append(bytes.Clone(b), 1, 2, 3)) {
		t.Error("the bytes changed:", in)
	}
	wipe(in, 0)
	overwrite(x)
	if !code.Same(y, s) {
		t.Errorf("what Get answers shares memory: %+v", y)
	}
	again := put(t, "a script", s)
	wipe(b, 0)
	if !bytes.Equal(again, kept) || !bytes.Equal(put(t, "a script", s), kept) {
		t.Error("what Put answers shares memory:", again)
	}
}

// FuzzGet: of any bytes an error, or a script that is written as the same bytes.
func FuzzGet(f *testing.F) {
	f.Add([]byte{})
	f.Add([]byte{0, 1, 0, 0, 0, 0, 0})
	f.Add([]byte{1, 0, 1, 'a', 1, 1, 2, 1, 3, 0, 0, 3, 2, 0, 9, 0, 36})
	for _, x := range rightOnes() {
		if b, ok := handBytes(x.s); ok && len(b) < 200 {
			f.Add(b)
		}
	}
	f.Fuzz(func(t *testing.T, b []byte) {
		wantWrittenBack(t, b)
	})
}
