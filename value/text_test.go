package value_test

import (
	"fmt"
	"math/rand"
	"slices"
	"strings"
	"testing"

	"weighhouse/api"
	"weighhouse/value"
)

// handText writes values that may be by the chapter's words.
func handText(l ...api.Value) string {
	s := ""
	for i, v := range l {
		if i > 0 {
			s += " "
		}
		switch v.Type {
		case 1:
			s += fmt.Sprintf("%d", v.N)
		case 2:
			s += fmt.Sprintf("x'%x'", v.B)
		case 3:
			s += fmt.Sprintf("%t", v.N == 1)
		}
	}
	return s
}

func wantParsed(t *testing.T, s string, want ...api.Value) {
	t.Helper()
	l, err := value.Parse(s)
	wantErr(t, s, err, api.OK)
	if !slices.Equal(l, want) {
		t.Errorf("%q: %+v, want %+v", s, l, want)
	}
}

func wantNotParsed(t *testing.T, s string) {
	t.Helper()
	l, err := value.Parse(s)
	if err != api.ErrForm || len(l) != 0 {
		t.Errorf("%q: %+v, error %d", s, l, err)
	}
}

func TestP204Texts(t *testing.T) {
	for s, l := range map[string][]api.Value{
		"":                     nil,
		"0":                    {value.Number(0)},
		"-1":                   {value.Number(-1)},
		"10":                   {value.Number(10)},
		"-5 x'61' true":        {value.Number(-5), value.Text("a"), value.Truth(true)},
		"9223372036854775807":  {value.Number(9223372036854775807)},
		"-9223372036854775808": {value.Number(-9223372036854775808)},
		"x''":                  {value.Text("")},
		"x'00'":                {value.Text("\x00")},
		"x'0a7f80ff'":          {value.Text("\n\x7f\x80\xff")},
		"x'78272720'":          {value.Text("x'' ")},
		"true":                 {value.Truth(true)},
		"false":                {value.Truth(false)},
		"false x'' x'' 0 true": {value.Truth(false), value.Text(""), value.Text(""), value.Number(0), value.Truth(true)},
		"x'" + strings.Repeat("6d", api.MaxValue) + "'": {value.Text(most)},
	} {
		if got := value.Print(l...); got != s {
			t.Errorf("%+v: %q, want %q", l, got, s)
		}
		wantParsed(t, s, l...)
	}
	if s := value.Print([]api.Value{}...); s != "" {
		t.Errorf("an empty list: %q", s)
	}
}

func TestP204AllDigits(t *testing.T) {
	for n := range 256 {
		v := value.Text(string([]byte{byte(n)}))
		s := fmt.Sprintf("x'%02x'", n)
		if got := value.Print(v); got != s {
			t.Errorf("%q, want %q", got, s)
		}
		wantParsed(t, s, v)
	}
	const small = "0123456789abcdef"
	for n := range 256 {
		if c := string([]byte{byte(n)}); !strings.Contains(small, c) {
			wantNotParsed(t, "x'0"+c+"'")
			wantNotParsed(t, "x'"+c+"0'")
			wantNotParsed(t, "x'"+c+c+"'")
		}
	}
}

func TestP204PrintWrong(t *testing.T) {
	for _, v := range wrongOnes() {
		for _, l := range [][]api.Value{{v}, {v, value.Number(1)}, {value.Number(1), v}} {
			if s := value.Print(l...); s != "" {
				t.Errorf("%+v: %q", l, s)
			}
		}
	}
}

func TestP204ParseWrong(t *testing.T) {
	for _, s := range []string{
		// numbers
		"00", "01", "05", "-0", "-00", "-01", "+0", "+1", "--1", "-", "+", "1-", "1.", "1.0", "1e3", "0x1", "1_0", "1,0", "١",
		"9223372036854775808", "-9223372036854775809", "18446744073709551616", "-18446744073709551615",
		strings.Repeat("9", 100), strings.Repeat("0", 100), "-" + strings.Repeat("1", 1000),
		// bytes
		"x", "x'", "'", "''", "x'''", "x'0", "x'00", "x'0'", "x'000'", "x'0F'", "x'A0'", "x'FF'", "x'0g'", "x'zz'", "x'0x'", "x'-1'", "x'+1'",
		"X'00'", "'00'", "00'", "x00", "x'00'x", "x'00''", "x''00'", "xx'00'", "x\"00\"", "x'00'x'00'", "x'0 0'", "x'00 '", "x' 00'", "x '00'",
		"x'" + strings.Repeat("6d", api.MaxValue+1) + "'", "x'" + strings.Repeat("6d", api.MaxValue) + "6'", "x'" + strings.Repeat("00", 40000) + "'",
		// truths
		"True", "TRUE", "t", "tru", "truee", "False", "falsE", "fals", "truefalse", "nil",
		// blanks
		" ", "  ", " 1", "1 ", "1  2", " 1 2", "1 2 ", "\t", "1\t2", "1\n2", "1\n", "\n", "1 \n2", "1\x00", "1\u00a02", "x'' ", " true",
		// one among others
		"1 2 03", "true x'0' 1", "1 a 2",
	} {
		wantNotParsed(t, s)
	}
	wantNotParsed(t, strings.Repeat(" ", 1<<20))
	wantNotParsed(t, strings.Repeat("1 ", 1<<16))
}

func TestP204NoLimitOfCount(t *testing.T) {
	l := slices.Repeat([]api.Value{value.Number(1), value.Text("a")}, 300)
	s := strings.Repeat(" 1 x'61'", 300)[1:]
	if got := value.Print(l...); got != s {
		t.Error("600 values:", len(got))
	}
	wantParsed(t, s, l...)
}

func TestP206ParseOfPrint(t *testing.T) {
	rnd := rand.New(rand.NewSource(206))
	for n := range 300 {
		l := some(rnd, n%40)
		s := value.Print(l...)
		if want := handText(l...); s != want {
			t.Errorf("%q, want %q", s, want)
		}
		wantParsed(t, s, l...)
	}
	for _, v := range rightOnes() {
		wantParsed(t, value.Print(v), v)
	}
}

func TestP201ParseSharesNothing(t *testing.T) {
	const s = "1 x'61'"
	l, _ := value.Parse(s)
	l[0].N, l[1].B = 2, "b"
	wantParsed(t, s, value.Number(1), value.Text("a"))
}

// FuzzParse: of any text an error, or values that are written as the same text.
func FuzzParse(f *testing.F) {
	for _, s := range []string{"", "0", "-5 x'61' true", "x'' false", "+1", "x'0F'", "1  2", "007"} {
		f.Add(s)
	}
	f.Fuzz(func(t *testing.T, s string) {
		l, err := value.Parse(s)
		if err != api.OK {
			if err != api.ErrForm || len(l) != 0 {
				t.Error(l, err)
			}
			return
		}
		if got := value.Print(l...); got != s {
			t.Errorf("%q, want %q", got, s)
		}
		for _, v := range l {
			if !value.Right(v) {
				t.Errorf("%+v may not be", v)
			}
		}
	})
}
