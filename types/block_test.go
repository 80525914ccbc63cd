package types_test

import (
	"slices"
	"strings"
	"testing"

	"weighhouse/api"
	"weighhouse/op"
	"weighhouse/types"
)

func TestP703If(t *testing.T) {
	const f = "const x'61' / func -> ; int"
	wantStacks(t, f+" / true / if / end", "", "b", "", "")
	wantStacks(t, f+" / true / if / int 1 / drop / end", "", "b", "", "i", "", "")
	wantStacks(t, f+" / true / if / else / end", "", "b", "", "", "")
	wantStacks(t, head("i")+" / true / if / int 1 / else / int 2 / int 3 / add / end",
		"", "b", "", "i", "", "i", "ii", "i", "i")
	wantStacks(t, head("iy")+" / true / if / int 1 / const 0 / else / int 2 / pack / int 2 / swap / end",
		"", "b", "", "i", "iy", "", "i", "y", "yi", "iy", "iy")
	wantStacks(t, f+" / int 1 / true / if / true / if / else / end / else / true / if / end / end / drop",
		"", "i", "ib", "i", "ib", "i", "i", "i", "i", "ib", "i", "i", "i", "")
}

// TestP703Entry: a block that begins with types on the stack may take them, if
// it puts them there again.
func TestP703Entry(t *testing.T) {
	wantStacks(t, head("i")+" / int 1 / true / if / drop / int 2 / end", "", "i", "ib", "i", "", "i", "i")
	wantStacks(t, head("i")+" / int 1 / true / if / drop / int 2 / else / neg / end", "", "i", "ib", "i", "", "i", "i", "i", "i")
	wantStacks(t, head("y")+" / int 1 / true / if / pack / else / one / end", "", "i", "ib", "i", "y", "i", "y", "y")
	wantStacks(t, head("")+" / int 1 / true / if / drop / else / drop / end", "", "i", "ib", "i", "", "i", "", "")
	wantStacks(t, head("iy")+" / int 1 / const 0 / loop 3 / drop / drop / int 2 / const 0 / end",
		"", "i", "iy", "iy", "i", "", "i", "iy", "iy")
	wantStacks(t, head("b")+" / true / loop 3 / dup / leave / not / end", "", "b", "b", "bb", "b", "b", "b")
}

func TestP703Loop(t *testing.T) {
	wantStacks(t, "func -> ; / loop 3 / end", "", "", "")
	wantStacks(t, "func -> ; / loop 3 / true / leave / end", "", "", "b", "", "")
	wantStacks(t, "func -> ; / loop 64 / true / leave / true / leave / end", "", "", "b", "", "b", "", "")
	wantStacks(t, head("i")+" / int 1 / loop 2 / int 2 / add / dup / int 9 / gt / leave / end",
		"", "i", "i", "ii", "i", "ii", "iii", "ib", "i", "i")
	wantStacks(t, "func -> ; / loop 1 / true / if / true / leave / end / end", "", "", "b", "", "b", "", "", "")
	wantStacks(t, "func -> ; / loop 1 / true / if / true / leave / else / true / leave / end / end",
		"", "", "b", "", "b", "", "", "b", "", "", "")
}

// TestP703LeaveInnermost: the loops' entries differ, so that only the innermost
// one's fits.
func TestP703LeaveInnermost(t *testing.T) {
	wantStacks(t, "func -> ; / loop 2 / int 1 / loop 3 / true / leave / end / drop / true / leave / end",
		"", "", "i", "i", "ib", "i", "i", "", "b", "", "")
	wantError(t, "func -> ; / loop 2 / int 1 / loop 3 / drop / true / leave / int 1 / end / drop / end", api.ErrStack)
	wantError(t, "func -> ; / loop 2 / int 1 / loop 3 / drop / true / true / leave / drop / int 1 / end / drop / end", api.ErrType)
	// behind the inner loop's end the outer one is the innermost
	wantError(t, "func -> ; / loop 2 / int 1 / loop 3 / end / true / leave / drop / end", api.ErrStack)
	wantStacks(t, "func -> ; / loop 2 / int 1 / loop 3 / end / drop / true / leave / end",
		"", "", "i", "i", "i", "", "b", "", "")
}

// TestP703LeaveWithinIf: it is the loop's entry that must stand there, not the
// if's.
func TestP703LeaveWithinIf(t *testing.T) {
	wantStacks(t, "func -> ; / loop 2 / int 1 / true / if / drop / true / leave / int 2 / end / drop / end",
		"", "", "i", "ib", "i", "", "b", "", "i", "i", "", "")
	wantError(t, "func -> ; / loop 2 / int 1 / true / if / true / leave / end / drop / end", api.ErrStack)
	wantStacks(t, head("i")+" / int 1 / loop 2 / true / if / true / if / drop / int 3 / true / leave / end / else / true / leave / end / end",
		"", "i", "i", "ib", "i", "ib", "i", "", "i", "ib", "i", "i", "i", "ib", "i", "i", "i")
	wantError(t, head("i")+" / int 1 / loop 2 / true / if / pack / true / leave / drop / int 1 / end / end", api.ErrType)
}

func TestP703NoBool(t *testing.T) {
	for line, behind := range map[string]string{"if": " / end", "leave": " / end"} {
		for ahead, want := range map[string]api.Errno{"": api.ErrStack, "i": api.ErrType, "y": api.ErrType, "bi": api.ErrType, "by": api.ErrType} {
			text := head("")
			if line == "leave" {
				text += " / loop 1"
			}
			wantError(t, text+pushes(ahead)+" / "+line+behind, want)
		}
	}
	// the step is told ahead of what must be
	wantError(t, head("")+" / loop 1 / int 1 / int 2 / leave / drop / end", api.ErrType)
	wantError(t, head("")+" / int 1 / loop 1 / drop / leave / end", api.ErrStack)
}

// TestP703Ends: at an end and a leave what is longer, shorter, of other types.
func TestP703Ends(t *testing.T) {
	for _, c := range []struct {
		within string // what is done from an entry of an int and bytes on
		want   api.Errno
	}{
		{"", api.OK},
		{" / int 1", api.ErrStack},
		{" / drop", api.ErrStack},
		{" / drop / drop", api.ErrStack},
		{" / drop / int 1", api.ErrType},
		{" / swap", api.ErrType},
		{" / drop / drop / const 0 / const 0", api.ErrType},
		{" / swap / true", api.ErrStack},
		{" / swap / swap", api.OK},
		{" / drop / int 3 / pack", api.OK},
	} {
		begin := head("iy") + " / int 1 / const 0"
		for _, text := range []string{
			begin + " / loop 3" + c.within + " / end",
			begin + " / true / if" + c.within + " / end",
			begin + " / true / if / else" + c.within + " / end",
			begin + " / true / if" + c.within + " / else / end",
			begin + " / loop 3" + c.within + " / true / leave / end",
			begin + " / loop 3 / true / if" + c.within + " / true / leave / end / end",
		} {
			if c.want == api.OK {
				if _, e := types.Check(read(t, text), 0); e != api.OK {
					t.Errorf("%q: error %d", text, e)
				}
				continue
			}
			wantError(t, text, c.want)
		}
	}
}

// TestP703ElseHasTheEntry: what stood ahead of the else is gone behind it.
func TestP703ElseHasTheEntry(t *testing.T) {
	wantError(t, head("i")+" / true / if / int 1 / else / neg / end", api.ErrStack)
	wantError(t, head("y")+" / int 1 / true / if / pack / else / len / pack / end", api.ErrType)
	wantStacks(t, head("y")+" / int 1 / true / if / pack / else / neg / pack / end", "", "i", "ib", "i", "y", "i", "i", "y", "y")
}

// TestP703EndOfIfWithElse: its entry is not what must stand there.
func TestP703EndOfIfWithElse(t *testing.T) {
	wantError(t, head("")+" / true / if / int 1 / else / end / drop", api.ErrStack)
	wantError(t, head("")+" / true / if / else / int 1 / end / drop", api.ErrStack)
	wantError(t, head("")+" / true / if / int 1 / else / true / end / drop", api.ErrType)
	wantError(t, head("")+" / int 1 / true / if / drop / else / end / drop", api.ErrStack)
	wantStacks(t, head("")+" / true / if / int 1 / else / int 2 / end / drop", "", "b", "", "i", "", "i", "i", "")
}

func TestP703Call(t *testing.T) {
	const f = " / func int bytes -> bool int ; / true / get 0 / func -> ; / func -> bytes ; / call 3 / func bool -> ;"
	s := read(t, "const x'61' / func -> bool bool int ; / true / int 1 / const 0 / call 1"+f)
	wantCheck(t, s, 0, "", "b", "bi", "biy", "bbi")
	wantCheck(t, s, 1, "", "b", "bi")
	wantCheck(t, s, 2, "")
	wantCheck(t, s, 3, "", "y")
	wantCheck(t, s, 4, "")
	wantMost(t, s, 3, 2, 0, 1, 0)
	for lines, want := range map[string]api.Errno{
		"call 1":                          api.ErrStack,
		"const 0 / call 1":                api.ErrStack,
		"int 1 / call 1":                  api.ErrType,
		"true / int 1 / call 1":           api.ErrType,
		"const 0 / int 1 / call 1":        api.ErrType,
		"const 0 / const 0 / call 1":      api.ErrType,
		"int 1 / true / call 1":           api.ErrType,
		"int 1 / const 0 / call 1":        api.ErrStack,
		"int 1 / const 0 / call 1 / drop": api.ErrStack,
		"int 1 / const 0 / call 1 / not":  api.ErrType,
		"call 3":                          api.ErrStack,
		"call 4":                          api.ErrStack,
		"int 1 / call 4":                  api.ErrType,
	} {
		wantError(t, "const x'61' / func -> ; / "+lines+f, want)
	}
	wantCheck(t, read(t, "const x'61' / func -> ; / call 2 / call 2 / call 3 / drop / true / call 4"+f), 0, "", "", "", "y", "", "b", "")
}

// TestP703CallsItself: the call is taken by its head, whatever it does, and
// whether it would end or not.
func TestP703CallsItself(t *testing.T) {
	s := read(t, "func int -> int ; / get 0 / call 0")
	wantCheck(t, s, 0, "", "i", "i")
	wantMost(t, s, 1)
	s = read(t, "func -> int ; / call 1 / func -> int ; / call 0")
	wantCheck(t, s, 0, "", "i")
	wantCheck(t, s, 1, "", "i")
	wantError(t, "func int -> int ; / call 0", api.ErrStack)
	wantError(t, "func int -> int bool ; / get 0 / call 0 / call 0", api.ErrType)
}

func TestP703CallOfBadFunction(t *testing.T) {
	s := read(t, "func -> int ; / call 1 / func -> int ; / add / func -> ; / if")
	wantCheck(t, s, 0, "", "i")
	wantBad(t, s, 1, api.ErrStack)
	wantBad(t, s, 2, api.ErrShape)
}

func TestP703WideCall(t *testing.T) {
	s := read(t, head("bbbbyyyy")+pushes("iyiyiyib")+" / call 1 / func "+names("iyiyiyib")+"-> "+names("bbbbyyyy")+"; / abort"+
		strings.Repeat(" / false", 4)+strings.Repeat(" / const 0", 4))
	wantCheck(t, s, 0, "", "i", "iy", "iyi", "iyiy", "iyiyi", "iyiyiy", "iyiyiyi", "iyiyiyib", "bbbbyyyy")
	wantMost(t, s, 8, 8)
}

func TestP703MaxStack(t *testing.T) {
	drops := strings.Repeat(" / drop", api.MaxStack)
	full := head("") + strings.Repeat(" / int 1", api.MaxStack)
	s := read(t, full+drops)
	l, e := types.Check(s, 0)
	if e != api.OK || len(l) != 2*api.MaxStack+1 {
		t.Fatalf("%d stacks, error %d", len(l), e)
	}
	for at, stack := range l {
		want := min(at, 2*api.MaxStack-at)
		if len(stack) != want {
			t.Errorf("%d stand there at %d, not %d", len(stack), at, want)
		}
	}
	wantMost(t, s, api.MaxStack)
	for _, more := range []string{"int 1", "const 0", "true", "dup", "over"} {
		wantError(t, full+" / "+more+" / drop"+drops, api.ErrStack)
		wantError(t, full+" / "+more+" / not"+drops, api.ErrStack)
	}
	for _, same := range []string{"swap", "neg", "add / dup", "drop / true / if / end / int 1", "loop 2 / end", "call 0", "call 1", "call 2 / int 1 / int 1"} {
		text := full + " / " + same + drops + " / func int int -> int int ; / get 0 / get 1 / func int int -> ;"
		if _, e := types.Check(read(t, text), 0); e != api.OK {
			t.Errorf("%q on a full stack: error %d", same, e)
		}
	}
	wantError(t, full+" / call 1"+drops+" / drop / func int -> int int ; / get 0 / dup", api.ErrStack)
	wantError(t, full+" / call 1"+drops+" / drop / func -> int ; / int 0", api.ErrStack)
}

// TestP703MaxStackFirst: what is told is the first instruction's error.
func TestP703MaxStackFirst(t *testing.T) {
	full := head("") + strings.Repeat(" / int 1", api.MaxStack)
	wantError(t, full+" / not / int 1", api.ErrType)
	wantError(t, full+" / int 1 / not", api.ErrStack)
	wantError(t, full+" / load / int 1", api.ErrType)
}

func TestP703FirstError(t *testing.T) {
	for text, want := range map[string]api.Errno{
		"int 1 / not / add / add":                     api.ErrType,
		"int 1 / add / not":                           api.ErrStack,
		"true / if / int 1 / end / not":               api.ErrStack,
		"int 1 / true / if / pack / end / add":        api.ErrType,
		"loop 1 / int 1 / true / leave / not / end":   api.ErrStack,
		"int 1 / loop 1 / pack / true / leave / end":  api.ErrType,
		"not / if / end":                              api.ErrStack,
		"true / if / int 1 / not / else / add / end":  api.ErrType,
		"true / if / int 1 / else / add / end / not":  api.ErrStack,
		"int 1 / pack / true / if / not / else / neg": api.ErrShape,
		"add / if":                       api.ErrShape,
		"int 1 / end":                    api.ErrShape,
		"leave":                          api.ErrShape,
		"else":                           api.ErrShape,
		"int 1 / if / else / else / end": api.ErrShape,
		"loop 2 / else / end":            api.ErrShape,
		strings.Repeat("true / if / ", 9) + "add" + ends(9): api.ErrShape,
		strings.Repeat("true / if / ", 8) + "add" + ends(8): api.ErrStack,
	} {
		wantError(t, "func -> ; / "+text, want)
	}
}

func ends(n int) string {
	return strings.Repeat(" / end", n)
}

func TestP703Deepest(t *testing.T) {
	c := head("")
	var words []string
	for n := range api.MaxBlocks {
		c += " / int 1 / loop 2"
		words = append(words, strings.Repeat("i", n), strings.Repeat("i", n+1))
	}
	c += " / true / leave"
	words = append(words, strings.Repeat("i", api.MaxBlocks), strings.Repeat("i", api.MaxBlocks)+"b")
	for n := api.MaxBlocks; n > 0; n-- {
		c += " / end / drop"
		words = append(words, strings.Repeat("i", n), strings.Repeat("i", n))
	}
	wantStacks(t, c, append(words, "")...)
}

func TestP703LongestCode(t *testing.T) {
	c := append(slices.Repeat([]api.Instr{{Op: op.True}, {Op: op.Drop}}, api.MaxCode/2-1), api.Instr{Op: op.True}, api.Instr{Op: op.Not})
	s := api.Script{Funcs: []api.Func{{Results: []int{api.Bool}, Code: c}}}
	var words []string
	for range api.MaxCode/2 - 1 {
		words = append(words, "", "b")
	}
	wantCheck(t, s, 0, append(words, "", "b", "b")...)
	s.Funcs[0].Code = append(c, api.Instr{Op: op.Not})
	wantBad(t, s, 0, api.ErrScript)
}
