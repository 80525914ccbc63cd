package asm_test

import (
	"fmt"
	"math"
	"slices"
	"strings"
	"testing"

	"weighhouse/api"
	"weighhouse/asm"
	"weighhouse/op"
)

// names are those of the operations, from 1 on, as the table of operations has
// them.
const names = "int const true false drop dup swap over get set add sub mul div rem neg and or xor inv shl shr" +
	" eq ne lt le gt ge both either not len join cut at same less pack unpack one load has save wipe next emit" +
	" abort if else end loop leave call"

// taking are the names of those that take a number.
const taking = " int const get set loop call "

func takes(name string) bool {
	return strings.Contains(taking, " "+name+" ")
}

// numbers are those at whose edges something may go wrong.
func numbers() []int {
	return []int{
		0, 1, -1, 2, -2, 9, 10, -10, 15, 16, 64, 65, 99, 100, 101, 255, 256, -256, 65536, 1 << 32, -1 << 32,
		math.MaxInt, math.MaxInt - 1, math.MinInt, math.MinInt + 1,
	}
}

// noOps are numbers that are no operation.
func noOps() []int {
	return []int{0, -1, -11, 54, 55, 99, 255, 256 + op.Add, 1<<32 + op.PushInt, math.MinInt, math.MinInt + 1, math.MaxInt}
}

func times[T any](n int, x T) []T {
	return slices.Repeat([]T{x}, n)
}

func wantRead(t *testing.T, s string, want api.Instr) {
	t.Helper()
	if x, ok := asm.Read(s); x != want || !ok {
		t.Errorf("Read(%q): %+v, %v, want %+v", s, x, ok, want)
	}
}

func wantNotRead(t *testing.T, s string) {
	t.Helper()
	if x, ok := asm.Read(s); ok || x != (api.Instr{}) {
		t.Errorf("Read(%.99q): %+v, %v", s, x, ok)
	}
}

func TestP502Lines(t *testing.T) {
	for s, x := range map[string]api.Instr{
		"int 3":                    {Op: op.PushInt, A: 3},
		"int 0":                    {Op: op.PushInt},
		"int -5":                   {Op: op.PushInt, A: -5},
		"int 9223372036854775807":  {Op: op.PushInt, A: math.MaxInt},
		"int -9223372036854775808": {Op: op.PushInt, A: math.MinInt},
		"const 31":                 {Op: op.PushConst, A: 31},
		"get 0":                    {Op: op.Get},
		"set 15":                   {Op: op.Set, A: 15},
		"loop 64":                  {Op: op.Loops, A: 64},
		"loop 0":                   {Op: op.Loops},
		"call 1":                   {Op: op.Call, A: 1},
		"call -9223372036854775808": {
			Op: op.Call, A: math.MinInt},
		"true": {Op: op.True},
		"add":  {Op: op.Add},
		"lt":   {Op: op.Lt},
		"end":  {Op: op.End},
	} {
		if got := asm.Line(x); got != s {
			t.Errorf("Line(%+v): %q, want %q", x, got, s)
		}
		wantRead(t, s, x)
	}
}

// TestP502EachOperation: those that take something have A, whatever it is; the
// others none.
func TestP502EachOperation(t *testing.T) {
	all := strings.Fields(names)
	if len(all) != op.Call {
		t.Fatal("names:", len(all))
	}
	for i, name := range all {
		for _, a := range numbers() {
			x, want := api.Instr{Op: i + 1, A: a}, ""
			if takes(name) {
				want = fmt.Sprintf("%s %d", name, a)
			} else if a == 0 {
				want = name
			}
			if got := asm.Line(x); got != want {
				t.Errorf("Line(%+v): %q, want %q", x, got, want)
			}
			if want != "" {
				wantRead(t, want, x)
			}
		}
	}
}

func TestP502LineWrong(t *testing.T) {
	for _, o := range noOps() {
		for _, a := range numbers() {
			if s := asm.Line(api.Instr{Op: o, A: a}); s != "" {
				t.Errorf("Line of %d %d: %q", o, a, s)
			}
		}
	}
}

// TestP502ReadEachWrong: each name with a number that it does not take, or
// without one that it takes, and in forms that are not just so.
func TestP502ReadEachWrong(t *testing.T) {
	for _, name := range strings.Fields(names) {
		if takes(name) {
			wantNotRead(t, name)
			for _, a := range []string{
				"", "00", "01", "-0", "-01", "+0", "+1", "--1", "-", "+", "1-", "1.0", "1e3", "0x1", "1_0", "1,0", "a", "?", "١",
				"9223372036854775808", "-9223372036854775809", "18446744073709551616", "99999999999999999999999",
				" 1", "1 ", "1 2", "1  2", "1\t", "1\n", "1\r", "\r1", "1\x00", "\x001", "1\xff", "x''", "x'01'", "true", "false",
			} {
				wantNotRead(t, name+" "+a)
			}
			wantNotRead(t, name+"1")
			wantNotRead(t, name+"  1")
			wantNotRead(t, " "+name+" 1")
			wantNotRead(t, name+"\t1")
			wantNotRead(t, name+"\u00a01")
			wantNotRead(t, strings.ToUpper(name)+" 1")
			wantNotRead(t, strings.ToUpper(name[:1])+name[1:]+" 1")
			continue
		}
		for _, s := range []string{" ", " 0", " 1", " -1", "0", "  ", "\n", "\r", "\t", "\x00", "\xff", " " + name, name} {
			wantNotRead(t, name+s)
		}
		wantNotRead(t, " "+name)
		wantNotRead(t, "\x00"+name)
		wantNotRead(t, strings.ToUpper(name))
		wantNotRead(t, strings.ToUpper(name[:1])+name[1:])
	}
}

func TestP502ReadWrong(t *testing.T) {
	for _, s := range []string{
		"", " ", "  ", "\n", "\r", "\x00", "\xff", "0", "1", "-", "11", "-1", "?", ";", "->", "func", "func -> ;", "const x'6b'",
		"ad", "addd", "nop", "nop 1", "loops 1", "Loops 1", "pushint 1", "pushconst 0", "bytes", "bool", "bytes 1", "in 1", "in t 1", "int1 1",
		"add sub", "add\nsub", "int 1\nint 2", "int 1 add", "1 int", "ınt 1", "іnt 1",
	} {
		wantNotRead(t, s)
	}
}

func TestP502ReadLong(t *testing.T) {
	wantNotRead(t, strings.Repeat("add", 1<<18))
	wantNotRead(t, strings.Repeat(" ", 1<<20))
	wantNotRead(t, "int "+strings.Repeat("9", 1<<20))
	wantNotRead(t, "int "+strings.Repeat("0", 1<<20))
	wantNotRead(t, "int"+strings.Repeat(" 1", 1<<20))
	wantNotRead(t, "get x'"+strings.Repeat("00", 1<<18)+"'")
}

// TestP502ReadJustSo: a line of which one byte is another one, or is more, or
// is gone, is none, or another one's.
func TestP502ReadJustSo(t *testing.T) {
	for _, s := range []string{"int -10", "int 0", "get 3", "call 15", "add", "unpack", "if"} {
		for _, c := range changed(s) {
			x, ok := asm.Read(c)
			if !ok && x != (api.Instr{}) || ok && asm.Line(x) != c {
				t.Errorf("Read(%q): %+v, %v", c, x, ok)
			}
		}
	}
}

// changed answers texts that differ from s in one byte each.
func changed(s string) []string {
	var l []string
	for i := range len(s) + 1 {
		for c := range 256 {
			l = append(l, s[:i]+string([]byte{byte(c)})+s[i:])
			if i < len(s) && s[i] != byte(c) {
				l = append(l, s[:i]+string([]byte{byte(c)})+s[i+1:])
			}
		}
		if i < len(s) {
			l = append(l, s[:i]+s[i+1:])
		}
	}
	return l
}

// FuzzRead: no instruction, or one whose line is the same text.
func FuzzRead(f *testing.F) {
	for _, s := range []string{"", "add", "add 0", "int -3", "int 01", "get  1", "loop 64"} {
		f.Add(s)
	}
	f.Fuzz(func(t *testing.T, s string) {
		x, ok := asm.Read(s)
		if !ok && x != (api.Instr{}) || ok && asm.Line(x) != s {
			t.Errorf("%q: %+v, %v", s, x, ok)
		}
	})
}
