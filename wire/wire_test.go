package wire_test

import (
	"bytes"
	"math"
	"math/rand"
	"strings"
	"testing"

	"weighhouse/api"
	"weighhouse/wire"
)

// full answers a Writer with so many zero bytes.
func full(t *testing.T, n int) *wire.Writer {
	t.Helper()
	w := wire.NewWriter()
	if err := w.Byte(make([]int, n)...); err != api.OK {
		t.Fatal("filling", n, err)
	}
	return w
}

func wantErr(t *testing.T, what string, got, want api.Errno) {
	t.Helper()
	if got != want {
		t.Errorf("%s: error %d, want %d", what, got, want)
	}
}

func wantBytes(t *testing.T, what string, got []byte, want ...byte) {
	t.Helper()
	if !bytes.Equal(got, want) {
		t.Errorf("%s: %v, want %v", what, got, want)
	}
}

// spoil changes b and all the room behind it.
func spoil(b []byte) {
	b = b[:cap(b)]
	for i := range b {
		b[i] ^= 255
	}
}

func TestP101NotMadeWriter(t *testing.T) {
	for what, w := range map[string]*wire.Writer{"nil": nil, "new": new(wire.Writer)} {
		for range 2 {
			wantErr(t, what+" Byte", w.Byte(1), api.ErrArg)
			wantErr(t, what+" Byte of none", w.Byte(), api.ErrArg)
			wantErr(t, what+" wrong Byte", w.Byte(256), api.ErrArg)
			wantErr(t, what+" Int", w.Int(1), api.ErrArg)
			wantErr(t, what+" Text", w.Text("a"), api.ErrArg)
			wantErr(t, what+" long Text", w.Text(strings.Repeat("a", 65536)), api.ErrArg)
			wantBytes(t, what+" Bytes", w.Bytes())
		}
	}
}

func TestP101NotMadeReader(t *testing.T) {
	for what, r := range map[string]*wire.Reader{"nil": nil, "new": new(wire.Reader)} {
		for range 2 {
			if n := r.Byte(); n != 0 {
				t.Error(what, "Byte", n)
			}
			if n := r.Int(); n != 0 {
				t.Error(what, "Int", n)
			}
			if s := r.Text(); s != "" {
				t.Error(what, "Text", s)
			}
			if n := r.Left(); n != 0 {
				t.Error(what, "Left", n)
			}
			wantErr(t, what+" Err", r.Err(), api.ErrArg)
			wantErr(t, what+" Done", r.Done(), api.ErrArg)
		}
	}
}

func TestP101NilIsEmpty(t *testing.T) {
	for what, b := range map[string][]byte{"nil": nil, "empty": {}} {
		r := wire.NewReader(b)
		if r.Left() != 0 {
			t.Error(what, "Left", r.Left())
		}
		wantErr(t, what+" Err", r.Err(), api.OK)
		wantErr(t, what+" Done", r.Done(), api.OK)
		if n := wire.Sum(b); n != 0 {
			t.Error(what, "Sum", n)
		}
		f, err := wire.Frame(b)
		wantErr(t, what+" Frame", err, api.OK)
		wantBytes(t, what+" Frame", f, 0, 0, 0, 0, 0x1c, 0xdf, 0x44, 0x21)
		if l, end := wire.Frames(b); len(l) != 0 || end != 0 {
			t.Error(what, "Frames", l, end)
		}
	}
	w := wire.NewWriter()
	wantErr(t, "no bytes", w.Byte(), api.OK)
	wantErr(t, "no ints", w.Int([]int{}...), api.OK)
	wantErr(t, "no texts", w.Text(nil...), api.OK)
	wantBytes(t, "an empty Writer", w.Bytes())
}

func TestP101NothingShared(t *testing.T) {
	w := wire.NewWriter()
	l := []int{1, 2}
	w.Byte(l...)
	w.Int(l...)
	if l[0] != 1 || l[1] != 2 {
		t.Error("a list that was handed in changed:", l)
	}
	l[0] = 9
	a, b := w.Bytes(), w.Bytes()
	spoil(a)
	if bytes.Equal(a, b) || !bytes.Equal(b, w.Bytes()) {
		t.Error("answers of Bytes share memory:", a, b, w.Bytes())
	}
	w.Byte(7)
	if len(b) != 18 || b[0] != 1 {
		t.Error("an answer of Bytes changed:", b)
	}

	room := []byte{0, 1, 'x', 'y', 'z'}
	r := wire.NewReader(room[:3])
	spoil(room)
	if s := r.Text(); s != "x" || r.Done() != api.OK {
		t.Error("a Reader keeps what it was handed:", s, r.Done())
	}
}

func TestP101FramesShareNothing(t *testing.T) {
	in := []byte("abcd")
	f, _ := wire.Frame(in[:3])
	g := bytes.Clone(f)
	spoil(f)
	if string(in) != "abcd" {
		t.Error("a frame shares memory with what is in it:", in)
	}
	b := append(bytes.Clone(g), g...)
	kept := bytes.Clone(b)
	l, _ := wire.Frames(b)
	if len(l) != 2 {
		t.Fatal(l)
	}
	spoil(l[0])
	if string(l[1]) != "abc" || !bytes.Equal(b, kept) {
		t.Error("lists of Frames share memory:", l, b)
	}
	spoil(b)
	if string(l[1]) != "abc" {
		t.Error("a list of Frames shares memory with its argument:", l)
	}
}

func TestP102Forms(t *testing.T) {
	for _, c := range []struct {
		what string
		err  func(w *wire.Writer) api.Errno
		want []byte
	}{
		{"Int(1)", func(w *wire.Writer) api.Errno { return w.Int(1) }, []byte{0, 0, 0, 0, 0, 0, 0, 1}},
		{"Int(-2)", func(w *wire.Writer) api.Errno { return w.Int(-2) }, []byte{255, 255, 255, 255, 255, 255, 255, 254}},
		{"Int(least)", func(w *wire.Writer) api.Errno { return w.Int(math.MinInt64) }, []byte{128, 0, 0, 0, 0, 0, 0, 0}},
		{"Int(most)", func(w *wire.Writer) api.Errno { return w.Int(math.MaxInt64) }, []byte{127, 255, 255, 255, 255, 255, 255, 255}},
		{"Int of all places", func(w *wire.Writer) api.Errno { return w.Int(0x0102030405060708) }, []byte{1, 2, 3, 4, 5, 6, 7, 8}},
		{`Text("ab")`, func(w *wire.Writer) api.Errno { return w.Text("ab") }, []byte{0, 2, 97, 98}},
		{`Text("")`, func(w *wire.Writer) api.Errno { return w.Text("") }, []byte{0, 0}},
		{"Text of several", func(w *wire.Writer) api.Errno { return w.Text("", "\xff\x00", "c") }, []byte{0, 0, 0, 2, 255, 0, 0, 1, 99}},
		{"Byte of several", func(w *wire.Writer) api.Errno { return w.Byte(0, 255, 7) }, []byte{0, 255, 7}},
	} {
		w := wire.NewWriter()
		wantErr(t, c.what, c.err(w), api.OK)
		wantBytes(t, c.what, w.Bytes(), c.want...)
	}
}

func TestP102OneBehindTheOther(t *testing.T) {
	w := wire.NewWriter()
	wantErr(t, "Text", w.Text("a"), api.OK)
	wantErr(t, "Byte", w.Byte(9), api.OK)
	wantErr(t, "Int", w.Int(3), api.OK)
	wantErr(t, "Byte", w.Byte(8), api.OK)
	wantBytes(t, "all", w.Bytes(), 0, 1, 97, 9, 0, 0, 0, 0, 0, 0, 0, 3, 8)
}

func TestP102BytesThatAreNone(t *testing.T) {
	w := wire.NewWriter()
	for _, n := range []int{-1, 256, math.MinInt64, math.MaxInt64, 1 << 32, -256} {
		wantErr(t, "one", w.Byte(n), api.ErrRange)
		wantErr(t, "the last one", w.Byte(1, 2, n), api.ErrRange)
		wantErr(t, "the first one", w.Byte(n, 1, 2), api.ErrRange)
		wantBytes(t, "behind an error", w.Bytes())
	}
	wantErr(t, "behind an error", w.Byte(0, 255), api.OK)
	wantBytes(t, "behind an error", w.Bytes(), 0, 255)
}

func TestP102LongTexts(t *testing.T) {
	long := strings.Repeat("a", 65535)
	w := wire.NewWriter()
	wantErr(t, "65536 bytes", w.Text(long+"a"), api.ErrSize)
	wantErr(t, "65536 bytes, last", w.Text("b", long+"a"), api.ErrSize)
	wantErr(t, "65536 bytes, first", w.Text(long+"a", "b"), api.ErrSize)
	wantBytes(t, "behind an error", w.Bytes())
	wantErr(t, "65535 bytes", w.Text(long), api.OK)
	if b := w.Bytes(); len(b) != 65537 || b[0] != 255 || b[1] != 255 || string(b[2:]) != long {
		t.Error("a text of 65535 bytes:", len(b), b[:3])
	}
}

func TestP102MaxBytes(t *testing.T) {
	for _, c := range []struct {
		what string
		left int
		err  func(w *wire.Writer) api.Errno
		want api.Errno
	}{
		{"a last byte", 1, func(w *wire.Writer) api.Errno { return w.Byte(1) }, api.OK},
		{"a byte too many", 0, func(w *wire.Writer) api.Errno { return w.Byte(1) }, api.ErrSize},
		{"no byte", 0, func(w *wire.Writer) api.Errno { return w.Byte() }, api.OK},
		{"two bytes, one too many", 1, func(w *wire.Writer) api.Errno { return w.Byte(1, 1) }, api.ErrSize},
		{"a byte that is none, and too many", 0, func(w *wire.Writer) api.Errno { return w.Byte(1, 256) }, api.ErrRange},
		{"a last int", 8, func(w *wire.Writer) api.Errno { return w.Int(1) }, api.OK},
		{"an int too many", 7, func(w *wire.Writer) api.Errno { return w.Int(1) }, api.ErrSize},
		{"two ints, one too many", 15, func(w *wire.Writer) api.Errno { return w.Int(1, 1) }, api.ErrSize},
		{"no int", 0, func(w *wire.Writer) api.Errno { return w.Int() }, api.OK},
		{"a last text", 3, func(w *wire.Writer) api.Errno { return w.Text("a") }, api.OK},
		{"a text too many", 3, func(w *wire.Writer) api.Errno { return w.Text("ab") }, api.ErrSize},
		{"an empty text too many", 1, func(w *wire.Writer) api.Errno { return w.Text("") }, api.ErrSize},
		{"two texts, one too many", 5, func(w *wire.Writer) api.Errno { return w.Text("a", "b") }, api.ErrSize},
		{"no text", 0, func(w *wire.Writer) api.Errno { return w.Text() }, api.OK},
	} {
		w := full(t, api.MaxBytes-c.left)
		wantErr(t, c.what, c.err(w), c.want)
		n, last := len(w.Bytes()), api.MaxBytes
		if c.want != api.OK {
			last -= c.left
		}
		if n != last {
			t.Errorf("%s: %d bytes written, want %d", c.what, n, last)
		}
	}
}

func TestP102TooManyAtOnce(t *testing.T) {
	w := wire.NewWriter()
	l := make([]int, api.MaxBytes+1)
	wantErr(t, "bytes", w.Byte(l...), api.ErrSize)
	l[api.MaxBytes] = -1
	wantErr(t, "bytes, the last one none", w.Byte(l...), api.ErrRange)
	wantErr(t, "ints", w.Int(l[:api.MaxBytes/8+1]...), api.ErrSize)
	many := make([]string, 17)
	for i := range many {
		many[i] = strings.Repeat("t", 65535)
	}
	wantErr(t, "texts", w.Text(many...), api.ErrSize)
	wantBytes(t, "behind errors", w.Bytes())
	wantErr(t, "all ints that fit", w.Int(l[:api.MaxBytes/8]...), api.OK)
	if n := len(w.Bytes()); n != api.MaxBytes {
		t.Error("all ints that fit:", n)
	}
}

func TestP103Reading(t *testing.T) {
	r := wire.NewReader([]byte{200, 255, 255, 255, 255, 255, 255, 255, 254, 0, 2, 97, 0, 0, 0, 5})
	steps := []struct {
		read func() bool
		left int
	}{
		{func() bool { return r.Byte() == 200 }, 15},
		{func() bool { return r.Int() == -2 }, 7},
		{func() bool { return r.Text() == "a\x00" }, 3},
		{func() bool { return r.Text() == "" }, 1},
		{func() bool { return r.Byte() == 5 }, 0},
	}
	for i, s := range steps {
		wantErr(t, "Done with some left", r.Done(), api.ErrForm)
		wantErr(t, "Err behind Done", r.Err(), api.OK)
		if !s.read() || r.Left() != s.left {
			t.Error("step", i, "left", r.Left())
		}
	}
	wantErr(t, "Done", r.Done(), api.OK)
	wantErr(t, "Err", r.Err(), api.OK)
}

func TestP103EndTooEarly(t *testing.T) {
	text := []byte{1, 0}
	text = append(text, strings.Repeat("t", 256)...)
	for _, c := range []struct {
		what string
		b    []byte
		read func(r *wire.Reader) bool
	}{
		{"Byte", []byte{1}, func(r *wire.Reader) bool { return r.Byte() == 0 }},
		{"Int", []byte{1, 2, 3, 4, 5, 6, 7, 8}, func(r *wire.Reader) bool { return r.Int() == 0 }},
		{"Text", text, func(r *wire.Reader) bool { return r.Text() == "" }},
	} {
		for n := range c.b {
			r := wire.NewReader(c.b[:n])
			if !c.read(r) || r.Left() != n {
				t.Error(c.what, "of", n, "bytes is read, left", r.Left())
			}
			wantErr(t, c.what+" Err", r.Err(), api.ErrEnd)
			wantErr(t, c.what+" Done", r.Done(), api.ErrEnd)
			if r.Byte() != 0 || r.Int() != 0 || r.Text() != "" || r.Left() != n {
				t.Error(c.what, "of", n, "bytes is read on behind an error, left", r.Left())
			}
			wantErr(t, c.what+" Err, again", r.Err(), api.ErrEnd)
		}
		r := wire.NewReader(c.b)
		if c.read(r) || r.Left() != 0 || r.Done() != api.OK {
			t.Error(c.what, "whole: left", r.Left(), r.Done())
		}
	}
}

func TestP103BehindAnError(t *testing.T) {
	r := wire.NewReader([]byte{7, 0, 1, 97, 5, 5})
	if r.Byte() != 7 || r.Int() != 0 || r.Left() != 5 {
		t.Error("an int that ends too early: left", r.Left())
	}
	if r.Byte() != 0 || r.Text() != "" || r.Left() != 5 {
		t.Error("behind an error: left", r.Left())
	}
	wantErr(t, "Done behind an error", r.Done(), api.ErrEnd)
}

// written is one item of each kind that a Writer takes, to be read back.
type written struct {
	kind, n int
	s       string
}

func (x written) put(w *wire.Writer) api.Errno {
	switch x.kind {
	case 0:
		return w.Byte(x.n)
	case 1:
		return w.Int(x.n)
	}
	return w.Text(x.s)
}

func (x written) isNext(r *wire.Reader) bool {
	switch x.kind {
	case 0:
		return r.Byte() == x.n
	case 1:
		return r.Int() == x.n
	}
	return r.Text() == x.s
}

func someWritten(rnd *rand.Rand) written {
	switch kind := rnd.Intn(3); kind {
	case 0:
		return written{kind: kind, n: rnd.Intn(256)}
	case 1:
		return written{kind: kind, n: int(rnd.Uint64() >> rnd.Intn(64))}
	}
	b := make([]byte, rnd.Intn(300))
	rnd.Read(b)
	return written{kind: 2, s: string(b)}
}

func TestP105ThereAndBack(t *testing.T) {
	rnd := rand.New(rand.NewSource(105))
	for range 300 {
		w := wire.NewWriter()
		l := make([]written, rnd.Intn(20))
		for i := range l {
			l[i] = someWritten(rnd)
			wantErr(t, "writing", l[i].put(w), api.OK)
		}
		b := w.Bytes()
		r, more := wire.NewReader(b), wire.NewReader(append(b, 0))
		for i, x := range l {
			if !x.isNext(r) || !x.isNext(more) {
				t.Fatal("item", i, "of", l, "is read as another one")
			}
		}
		wantErr(t, "Done", r.Done(), api.OK)
		wantErr(t, "Done with one byte more", more.Done(), api.ErrForm)
		if len(b) == 0 {
			continue
		}
		cut := wire.NewReader(b[:rnd.Intn(len(b))])
		for _, x := range l {
			x.isNext(cut)
		}
		wantErr(t, "Done of bytes cut short", cut.Done(), api.ErrEnd)
	}
}

func TestP105Edges(t *testing.T) {
	w := wire.NewWriter()
	long := strings.Repeat("\xfe", 65535)
	ints := []int{0, -1, 1, math.MinInt64, math.MaxInt64, 1 << 62, 255, 256, -256}
	wantErr(t, "Byte", w.Byte(0, 255), api.OK)
	wantErr(t, "Int", w.Int(ints...), api.OK)
	wantErr(t, "Text", w.Text("", long, "\x00"), api.OK)
	r := wire.NewReader(w.Bytes())
	if r.Byte() != 0 || r.Byte() != 255 {
		t.Error("bytes")
	}
	for _, n := range ints {
		if got := r.Int(); got != n {
			t.Error("int", got, "want", n)
		}
	}
	if r.Text() != "" || r.Text() != long || r.Text() != "\x00" {
		t.Error("texts")
	}
	wantErr(t, "Done", r.Done(), api.OK)
}

func TestCopiesStayOne(t *testing.T) {
	w := wire.NewWriter()
	w.Byte(1)
	c := *w
	w.Byte(2)
	c.Byte(3)
	wantBytes(t, "a Writer", w.Bytes(), 1, 2, 3)
	wantBytes(t, "its copy", c.Bytes(), 1, 2, 3)
}
