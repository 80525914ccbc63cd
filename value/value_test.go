package value_test

import (
	"math"
	"math/rand"
	"slices"
	"strings"
	"testing"

	"weighhouse/api"
	"weighhouse/value"
)

var (
	most    = strings.Repeat("m", api.MaxValue)
	tooLong = most + "m"
)

// numbers are those at whose edges something may go wrong.
func numbers() []int {
	return []int{0, 1, 2, -1, 9, 10, -10, 255, 256, -256, math.MinInt, math.MinInt + 1, math.MaxInt, math.MaxInt - 1}
}

func texts() []string {
	return []string{"", "\x00", "a", "ab", "b", "\xff", "'", " ", "x''", "\x7f\x80", most[1:], most}
}

// noTypes are numbers that are no Type.
func noTypes() []int {
	return []int{0, 4, -1, -2, 5, 255, 256 + api.Int, 1 << 32, math.MinInt, math.MaxInt}
}

// rightOnes are values that may be, wrongOnes values that may not.
func rightOnes() []api.Value {
	l := []api.Value{{Type: api.Bool}, {Type: api.Bool, N: 1}}
	for _, n := range numbers() {
		l = append(l, api.Value{Type: api.Int, N: n})
	}
	for _, s := range texts() {
		l = append(l, api.Value{Type: api.Bytes, B: s})
	}
	return l
}

func wrongOnes() []api.Value {
	l := []api.Value{
		{Type: api.Bytes, B: tooLong},
		{Type: api.Bytes, B: strings.Repeat("m", 65536)},
		{Type: api.Bool, B: "a"},
		{Type: api.Bool, N: 1, B: "\x00"},
		{Type: api.Int, B: "a"},
		{Type: api.Int, N: 1, B: "1"},
	}
	for _, n := range numbers() {
		if n != 0 {
			l = append(l, api.Value{Type: api.Bytes, N: n}, api.Value{Type: api.Bytes, N: n, B: "a"})
		}
		if n != 0 && n != 1 {
			l = append(l, api.Value{Type: api.Bool, N: n})
		}
	}
	for _, k := range noTypes() {
		l = append(l, api.Value{Type: k}, api.Value{Type: k, N: 1}, api.Value{Type: k, B: "a"})
	}
	return l
}

func wantErr(t *testing.T, what string, got, want api.Errno) {
	t.Helper()
	if got != want {
		t.Errorf("%s: error %d, want %d", what, got, want)
	}
}

func TestP202Right(t *testing.T) {
	for _, v := range rightOnes() {
		if !value.Right(v) {
			t.Errorf("%+v may be", v)
		}
	}
	for _, v := range wrongOnes() {
		if value.Right(v) {
			t.Errorf("%+v may not be", v)
		}
	}
}

func TestP202Makers(t *testing.T) {
	for _, n := range numbers() {
		if v := value.Number(n); v != (api.Value{Type: 1, N: n}) {
			t.Errorf("Number(%d): %+v", n, v)
		}
	}
	for _, s := range append(texts(), tooLong) {
		if v := value.Text(s); v != (api.Value{Type: 2, B: s}) {
			t.Errorf("Text(%q): %+v", s, v)
		}
	}
	if v := value.Truth(false); v != (api.Value{Type: 3}) {
		t.Errorf("Truth(false): %+v", v)
	}
	if v := value.Truth(true); v != (api.Value{Type: 3, N: 1}) {
		t.Errorf("Truth(true): %+v", v)
	}
}

func TestP202Zero(t *testing.T) {
	for k, want := range map[int]api.Value{
		api.Int: value.Number(0), api.Bytes: value.Text(""), api.Bool: value.Truth(false),
	} {
		if v := value.Zero(k); v != want {
			t.Errorf("Zero(%d): %+v", k, v)
		}
	}
	for _, k := range noTypes() {
		if v := value.Zero(k); v != (api.Value{}) {
			t.Errorf("Zero(%d): %+v", k, v)
		}
	}
}

// rising are values, also such as may not be, from the least one on.
func rising() []api.Value {
	return []api.Value{
		{Type: math.MinInt, N: 5, B: "z"}, {Type: -1, N: 9}, {}, {B: "a"}, {N: 1},
		{Type: 1, N: math.MinInt}, {Type: 1, N: -2}, {Type: 1, N: -1, B: "z"}, {Type: 1},
		{Type: 1, B: "\x00"}, {Type: 1, N: 1}, {Type: 1, N: math.MaxInt},
		{Type: 2, N: -1, B: "z"}, {Type: 2}, {Type: 2, B: "\x00"}, {Type: 2, B: "A"}, {Type: 2, B: "a"},
		{Type: 2, B: "a\x00"}, {Type: 2, B: "ab"}, {Type: 2, B: "b"}, {Type: 2, B: "\x7f"},
		{Type: 2, B: "\x80"}, {Type: 2, B: "\xff"}, {Type: 2, B: "\xff" + tooLong}, {Type: 2, N: 1},
		{Type: 3}, {Type: 3, N: 1}, {Type: 3, N: 2}, {Type: 4}, {Type: math.MaxInt},
	}
}

func TestP202Compare(t *testing.T) {
	l := rising()
	for i, a := range l {
		for j, b := range l {
			want := 0
			if i < j {
				want = -1
			} else if i > j {
				want = 1
			}
			if got := value.Compare(a, b); got != want {
				t.Errorf("%+v against %+v: %d, want %d", a, b, got, want)
			}
		}
	}
}

// someValue answers one that may be or not; few parts, so that many are alike.
func someValue(rnd *rand.Rand) api.Value {
	return api.Value{Type: rnd.Intn(5), N: rnd.Intn(4) - 1, B: []string{"", "a", "ab", "\xff"}[rnd.Intn(4)]}
}

func TestP207AnOrder(t *testing.T) {
	rnd := rand.New(rand.NewSource(207))
	for range 20000 {
		a, b, c := someValue(rnd), someValue(rnd), someValue(rnd)
		ab, bc, ac := value.Compare(a, b), value.Compare(b, c), value.Compare(a, c)
		if ab < -1 || ab > 1 || (ab == 0) != (a == b) {
			t.Errorf("%+v against %+v: %d", a, b, ab)
		}
		if back := value.Compare(b, a); back != -ab {
			t.Errorf("%+v against %+v: %d, turned round %d", a, b, ab, back)
		}
		if ab <= 0 && bc <= 0 && (ac > 0 || ac == 0 && ab+bc != 0) {
			t.Errorf("no order: %+v %+v %+v", a, b, c)
		}
	}
}

func TestP205Fits(t *testing.T) {
	n, s, b := value.Number(-1), value.Text("a"), value.Truth(true)
	for _, c := range []struct {
		what  string
		l     []api.Value
		types []int
		want  bool
	}{
		{"none", nil, nil, true},
		{"none and an empty list", nil, []int{}, true},
		{"an empty list and none", []api.Value{}, nil, true},
		{"one of each", []api.Value{n, s, b}, []int{1, 2, 3}, true},
		{"two alike", []api.Value{b, b}, []int{3, 3}, true},
		{"MaxValue bytes", []api.Value{value.Text(most)}, []int{2}, true},
		{"a value too few", []api.Value{n}, []int{1, 1}, false},
		{"a value too many", []api.Value{n, n}, []int{1}, false},
		{"a value, no types", []api.Value{n}, nil, false},
		{"types, no value", nil, []int{1}, false},
		{"turned round", []api.Value{s, n}, []int{1, 2}, false},
		{"the last one another", []api.Value{n, s, b}, []int{1, 2, 1}, false},
		{"the first one another", []api.Value{n, s, b}, []int{3, 2, 3}, false},
		{"too many bytes", []api.Value{n, value.Text(tooLong)}, []int{1, 2}, false},
	} {
		if got := value.Fits(c.l, c.types); got != c.want {
			t.Error(c.what, got)
		}
	}
}

func TestP205FitsOne(t *testing.T) {
	kinds := append(noTypes(), api.Int, api.Bytes, api.Bool)
	for _, v := range rightOnes() {
		for _, k := range kinds {
			if got := value.Fits([]api.Value{v}, []int{k}); got != (k == v.Type) {
				t.Errorf("%+v as %d: %v", v, k, got)
			}
		}
	}
	for _, v := range wrongOnes() {
		if value.Fits([]api.Value{v}, []int{v.Type}) {
			t.Errorf("%+v may not be", v)
		}
		if value.Fits([]api.Value{value.Number(1), v}, []int{1, v.Type}) {
			t.Errorf("%+v may not be, behind another", v)
		}
	}
}

func TestP201NothingChanged(t *testing.T) {
	l := append(rightOnes(), wrongOnes()...)
	kept := slices.Clone(l)
	types := []int{1, 2, 3, 9, 9}
	value.Put(l[:3]...)
	value.Put(l...)
	value.Print(l[:3]...)
	value.Print(l...)
	value.Fits(l[:3], types[:3])
	value.Fits(l[:5], types)
	if !slices.Equal(l, kept) || !slices.Equal(types, []int{1, 2, 3, 9, 9}) {
		t.Error("an argument changed")
	}
}
