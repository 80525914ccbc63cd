package types_test

import (
	"math"
	"slices"
	"strings"
	"testing"

	"weighhouse/api"
	"weighhouse/asm"
	"weighhouse/op"
	"weighhouse/types"
)

// read answers the script of a text whose lines are parted by " / ".
func read(t *testing.T, text string) api.Script {
	t.Helper()
	s, bad := asm.Parse(strings.ReplaceAll(text, " / ", "\n") + "\n")
	if bad != 0 {
		t.Fatalf("%q: line %d", text, bad)
	}
	return s
}

// letters has the types of values by their numbers: int, bytes (y), bool.
const letters = "?iyb"

// stack answers the list of types that a word of letters stands for.
func stack(word string) []int {
	var l []int
	for _, c := range word {
		l = append(l, strings.IndexRune(letters, c))
	}
	return l
}

// word is what stack turns back.
func word(stack []int) string {
	w := ""
	for _, n := range stack {
		w += letters[n : n+1]
	}
	return w
}

// names answers the types of a word as a function's head has them.
func names(w string) string {
	return strings.NewReplacer("i", "int ", "y", "bytes ", "b", "bool ").Replace(w)
}

// pushes answers lines that put the types of a word onto the stack.
func pushes(w string) string {
	return strings.NewReplacer("i", " / int 7", "y", " / const 0", "b", " / true").Replace(w)
}

// head answers the first lines of a script with one constant, whose function
// has these results.
func head(results string) string {
	return "const x'61' / func -> " + names(results) + ";"
}

func wantCheck(t *testing.T, s api.Script, f int, words ...string) {
	t.Helper()
	l, e := types.Check(s, f)
	if e != api.OK || len(l) != len(words) {
		t.Errorf("%q, %d: %d stacks, error %d; want %q", asm.Print(s), f, len(l), e, words)
		return
	}
	for at, w := range words {
		if !slices.Equal(l[at], stack(w)) {
			t.Errorf("%q, %d: at %d %v, want %q", asm.Print(s), f, at, l[at], w)
		}
	}
}

func wantStacks(t *testing.T, text string, words ...string) {
	t.Helper()
	wantCheck(t, read(t, text), 0, words...)
}

func wantBad(t *testing.T, s api.Script, f int, want api.Errno) {
	t.Helper()
	if l, e := types.Check(s, f); e != want || len(l) != 0 {
		t.Errorf("%q, %d: %v, error %d, want %d", asm.Print(s), f, l, e, want)
	}
}

func wantError(t *testing.T, text string, want api.Errno) {
	t.Helper()
	s := read(t, text)
	wantBad(t, s, 0, want)
	if most, e := types.All(s); e != want || len(most) != 0 {
		t.Errorf("All of %q: %v, error %d, want %d", text, most, e, want)
	}
}

func wantMost(t *testing.T, s api.Script, want ...int) {
	t.Helper()
	if most, e := types.All(s); e != api.OK || !slices.Equal(most, want) {
		t.Errorf("All of %q: %v, error %d, want %v", asm.Print(s), most, e, want)
	}
}

// noPlaces are numbers of functions that a script with so many has not.
func noPlaces(size int) []int {
	return []int{-1, -2, -size, -size - 1, size, size + 1, 1 << 32, 1<<32 + 1, -1 << 32, math.MinInt, math.MinInt + 1, math.MaxInt}
}

func TestP702Alike(t *testing.T) {
	for _, c := range []struct {
		a, b string
		want api.Errno
	}{
		{"", "", api.OK},
		{"i", "i", api.OK},
		{"iyb", "iyb", api.OK},
		{"bbbbb", "bbbbb", api.OK},
		{"", "i", api.ErrStack},
		{"i", "ii", api.ErrStack},
		{"iyb", "iy", api.ErrStack},
		{"y", "ib", api.ErrStack},
		{"yy", "b", api.ErrStack},
		{"i", "y", api.ErrType},
		{"i", "b", api.ErrType},
		{"ib", "iy", api.ErrType},
		{"bi", "yi", api.ErrType},
		{"iib", "ibi", api.ErrType},
		{"iyb", "biy", api.ErrType},
	} {
		a, b := stack(c.a), stack(c.b)
		if e := types.Alike(a, b); e != c.want {
			t.Errorf("%q, %q: %d, want %d", c.a, c.b, e, c.want)
		}
		if e := types.Alike(b, a); e != c.want {
			t.Errorf("%q, %q: %d, want %d", c.b, c.a, e, c.want)
		}
	}
}

// TestP702AnyNumbers: what is no type, and stacks that no function has, are
// held against each other as well.
func TestP702AnyNumbers(t *testing.T) {
	numbers := []int{0, 1, -1, 3, 4, 256, 257, 1 << 32, 1<<32 + 1, math.MaxInt, math.MinInt}
	for _, n := range numbers {
		for _, m := range numbers {
			want := api.OK
			if n != m {
				want = api.ErrType
			}
			if e := types.Alike([]int{1, n}, []int{1, m}); e != want {
				t.Errorf("%d, %d: %d, want %d", n, m, e, want)
			}
		}
	}
	long := slices.Repeat([]int{1}, 1<<20)
	other := slices.Clone(long)
	other[len(other)-1] = 2
	for _, c := range []struct {
		b    []int
		want api.Errno
	}{{slices.Clone(long), api.OK}, {other, api.ErrType}, {long[1:], api.ErrStack}, {nil, api.ErrStack}} {
		if e := types.Alike(long, c.b); e != c.want {
			t.Errorf("%d types: %d, want %d", len(c.b), e, c.want)
		}
	}
}

// row is what the chapter of operations says of one: what it takes and puts.
type row struct {
	line, in, out string
}

// rows are those that take and put the same types everywhere.
func rows() []row {
	l := []row{
		{"int 5", "", "i"}, {"int -5", "", "i"}, {"const 0", "", "y"}, {"true", "", "b"}, {"false", "", "b"},
		{"both", "bb", "b"}, {"either", "bb", "b"}, {"not", "b", "b"},
		{"len", "y", "i"}, {"join", "yy", "y"}, {"cut", "yii", "y"}, {"at", "yi", "i"},
		{"same", "yy", "b"}, {"less", "yy", "b"}, {"pack", "i", "y"}, {"unpack", "y", "i"}, {"one", "i", "y"},
		{"load", "y", "yb"}, {"has", "y", "b"}, {"save", "yy", ""}, {"wipe", "y", ""},
		{"next", "y", "yb"}, {"emit", "y", ""}, {"abort", "", ""}, {"neg", "i", "i"}, {"inv", "i", "i"},
	}
	for _, name := range strings.Fields("add sub mul div rem and or xor shl shr") {
		l = append(l, row{name, "ii", "i"})
	}
	for _, name := range strings.Fields("eq ne lt le gt ge") {
		l = append(l, row{name, "ii", "b"})
	}
	return l
}

// freeRows are those that take any types, with all types that they may take.
func freeRows() []row {
	var l []row
	for _, a := range strings.Split("iyb", "") {
		l = append(l, row{"drop", a, ""}, row{"dup", a, a + a})
		for _, b := range strings.Split("iyb", "") {
			l = append(l, row{"swap", a + b, b + a}, row{"over", a + b, a + b + a})
		}
	}
	return l
}

// wantRow holds a row to what stands on the stack, with some types below those
// that it takes.
func wantRow(t *testing.T, r row, below string) {
	t.Helper()
	ahead, behind := below+r.in, below+r.out
	var words []string
	for size := range len(ahead) + 1 {
		words = append(words, ahead[:size])
	}
	text := head(behind) + pushes(ahead) + " / " + r.line
	wantStacks(t, text, append(words, behind)...)
	most := max(len(ahead), len(behind))
	wantMost(t, read(t, text), most)
}

func TestP703Rows(t *testing.T) {
	for _, r := range append(rows(), freeRows()...) {
		for _, below := range []string{"", "i", "y", "b", "iyb", "byibi"} {
			wantRow(t, r, below)
		}
	}
}

// TestP703AllOperations: no operation is forgotten in the rows.
func TestP703AllOperations(t *testing.T) {
	seen := map[string]bool{}
	for _, r := range append(rows(), freeRows()...) {
		name, _, _ := strings.Cut(r.line, " ")
		seen[name] = true
	}
	for _, name := range strings.Fields("get set if else end loop leave call") {
		seen[name] = true
	}
	for n := op.PushInt; n <= op.Call; n++ {
		if !seen[op.Name(n)] {
			t.Error(op.Name(n), "is in no row")
		}
	}
}

// TestP703TooFew: a step that takes more than there is, the ones that there
// are being right.
func TestP703TooFew(t *testing.T) {
	for _, r := range append(rows(), freeRows()...) {
		for size := range r.in {
			ahead := r.in[len(r.in)-size:]
			wantError(t, head(r.out)+pushes(ahead)+" / "+r.line, api.ErrStack)
			wantError(t, head("")+pushes(ahead)+" / "+r.line, api.ErrStack)
		}
	}
}

// others answers the two other types.
func others(letter byte) []string {
	return strings.Split(strings.ReplaceAll("iyb", string(letter), ""), "")
}

func TestP703OtherType(t *testing.T) {
	for _, r := range rows() {
		for at := range len(r.in) {
			for _, other := range others(r.in[at]) {
				ahead := r.in[:at] + other + r.in[at+1:]
				wantError(t, head(r.out)+pushes(ahead)+" / "+r.line, api.ErrType)
				wantError(t, head("i"+r.out)+pushes("i"+ahead)+" / "+r.line, api.ErrType)
			}
		}
	}
}

// TestP703OtherTypeAndTooFew: types are looked at from the top, so that another
// one is seen ahead of those that are not there.
func TestP703OtherTypeAndTooFew(t *testing.T) {
	told := 0
	for _, r := range rows() {
		for from := 1; from < len(r.in); from++ {
			for at := from; at < len(r.in); at++ {
				for _, other := range others(r.in[at]) {
					ahead := r.in[from:at] + other + r.in[at+1:]
					wantError(t, head(r.out)+pushes(ahead)+" / "+r.line, api.ErrType)
					told++
				}
			}
		}
	}
	if told < 50 {
		t.Error("only", told, "were told")
	}
	wantError(t, "func -> ; / true / call 1 / func bool int -> ;", api.ErrType)
	wantError(t, "func -> ; / true / call 1 / func int bool -> ; / true / drop", api.ErrStack)
}

func TestP703Slots(t *testing.T) {
	const f = "const x'61' / func int bytes -> int bytes bool int ; bool int"
	wantStacks(t, f+" / get 0 / get 1 / get 2 / get 3", "", "i", "iy", "iyb", "iybi")
	wantStacks(t, f+" / get 3 / set 0 / get 1 / set 1 / true / set 2 / get 0 / get 1 / get 2 / int 1 / set 3 / get 3",
		"", "i", "", "y", "", "b", "", "i", "iy", "iyb", "iybi", "iyb", "iybi")
	kinds := "iybi"
	for slot := range kinds {
		n := string(rune('0' + slot))
		for _, other := range others(kinds[slot]) {
			wantError(t, f+pushes(other)+" / set "+n, api.ErrType)
			wantError(t, f+pushes(string(kinds[slot])+other)+" / set "+n, api.ErrType)
		}
		wantError(t, f+" / set "+n, api.ErrStack)
		wantError(t, f+" / get "+n, api.ErrStack)
	}
}

func TestP703MostSlots(t *testing.T) {
	f := "func " + names("iybiybiy") + "-> bool int ; " + strings.TrimSpace(names("byiyibyb"))
	wantStacks(t, f+" / get 15 / get 0", "", "b", "bi")
	wantStacks(t, f+" / true / set 15 / get 7 / set 14 / get 8 / get 10", "", "b", "", "y", "", "b", "bi")
	wantError(t, f+" / get 0 / set 15", api.ErrType)
	wantError(t, f+" / get 15 / set 0", api.ErrType)
}

func TestP703Empty(t *testing.T) {
	wantStacks(t, "func -> ;", "")
	wantStacks(t, "func int bool -> ; bytes", "")
	for _, results := range []string{"i", "b", "iyb", "iyiyiyiy"} {
		wantError(t, head(results), api.ErrStack)
	}
	wantError(t, "func int -> int ;", api.ErrStack)
}

func TestP703Results(t *testing.T) {
	for _, c := range []struct {
		results, left string
		want          api.Errno
	}{
		{"", "i", api.ErrStack},
		{"i", "ii", api.ErrStack},
		{"ii", "i", api.ErrStack},
		{"ib", "y", api.ErrStack},
		{"y", "ib", api.ErrStack},
		{"i", "y", api.ErrType},
		{"i", "b", api.ErrType},
		{"b", "y", api.ErrType},
		{"iy", "yi", api.ErrType},
		{"iiiiiiii", "yiiiiiii", api.ErrType},
		{"iiiiiiii", "iiiiiiib", api.ErrType},
		{"iiiiiiii", "iiiiiiiii", api.ErrStack},
	} {
		wantError(t, head(c.results)+pushes(c.left), c.want)
		wantError(t, head(c.results)+pushes(c.left)+" / true / if / end", c.want)
	}
	wantStacks(t, head("iybiybiy")+pushes("iybiybiy"), "", "i", "iy", "iyb", "iybi", "iybiy", "iybiyb", "iybiybi", "iybiybiy")
}

func TestP703Example(t *testing.T) {
	wantStacks(t, "func int -> int ; / get 0 / dup / mul", "", "i", "ii", "i")
}
