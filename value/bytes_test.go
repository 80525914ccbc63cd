package value_test

import (
	"bytes"
	"encoding/binary"
	"math"
	"math/rand"
	"slices"
	"strings"
	"testing"

	"weighhouse/api"
	"weighhouse/value"
)

// handBytes writes values by the chapter's words, also such as may not be.
func handBytes(l ...api.Value) []byte {
	b := []byte{byte(len(l))}
	for _, v := range l {
		b = append(b, byte(v.Type))
		switch v.Type {
		case 1:
			b = binary.BigEndian.AppendUint64(b, uint64(v.N))
		case 2:
			b = append(binary.BigEndian.AppendUint16(b, uint16(len(v.B))), v.B...)
		case 3:
			b = append(b, byte(v.N))
		}
	}
	return b
}

func put(t *testing.T, l ...api.Value) []byte {
	t.Helper()
	b, err := value.Put(l...)
	wantErr(t, "Put", err, api.OK)
	return b
}

func wantValues(t *testing.T, what string, b []byte, want ...api.Value) {
	t.Helper()
	l, err := value.Get(b)
	wantErr(t, what, err, api.OK)
	if !slices.Equal(l, want) {
		t.Errorf("%s: %+v, want %+v", what, l, want)
	}
}

func wantNoValues(t *testing.T, what string, b []byte) {
	t.Helper()
	l, err := value.Get(b)
	wantErr(t, what, err, api.ErrForm)
	if len(l) != 0 {
		t.Errorf("%s: %+v beside an error", what, l)
	}
}

func TestP203Put(t *testing.T) {
	for _, c := range []struct {
		what string
		l    []api.Value
		want []byte
	}{
		{"nil", nil, []byte{0}},
		{"an empty list", []api.Value{}, []byte{0}},
		{"0", []api.Value{value.Number(0)}, []byte{1, 1, 0, 0, 0, 0, 0, 0, 0, 0}},
		{"258", []api.Value{value.Number(258)}, []byte{1, 1, 0, 0, 0, 0, 0, 0, 1, 2}},
		{"-2", []api.Value{value.Number(-2)}, []byte{1, 1, 255, 255, 255, 255, 255, 255, 255, 254}},
		{"the least number", []api.Value{value.Number(math.MinInt)}, []byte{1, 1, 128, 0, 0, 0, 0, 0, 0, 0}},
		{"no bytes", []api.Value{value.Text("")}, []byte{1, 2, 0, 0}},
		{"bytes", []api.Value{value.Text("ab")}, []byte{1, 2, 0, 2, 'a', 'b'}},
		{"MaxValue bytes", []api.Value{value.Text(most)}, append([]byte{1, 2, 1, 0}, most...)},
		{"truths", []api.Value{value.Truth(false), value.Truth(true)}, []byte{2, 3, 0, 3, 1}},
		{"a mix", []api.Value{value.Truth(true), value.Text("a"), value.Truth(false)}, []byte{3, 3, 1, 2, 0, 1, 'a', 3, 0}},
	} {
		b := put(t, c.l...)
		if !bytes.Equal(b, c.want) {
			t.Errorf("%s: %v, want %v", c.what, b, c.want)
		}
		wantValues(t, c.what, c.want, c.l...)
	}
}

func TestP203PutWrong(t *testing.T) {
	for _, v := range wrongOnes() {
		for _, l := range [][]api.Value{{v}, {v, value.Number(1)}, {value.Number(1), v}} {
			b, err := value.Put(l...)
			if err != api.ErrArg || len(b) != 0 {
				t.Errorf("%+v: %v %d", l, b, err)
			}
		}
	}
}

func TestP203PutMany(t *testing.T) {
	l := slices.Repeat([]api.Value{value.Text(most)}, 256)
	b := put(t, l[:255]...)
	if len(b) != 1+255*(3+api.MaxValue) || b[0] != 255 {
		t.Error("255 values:", len(b), b[0])
	}
	wantValues(t, "255 values", b, l[:255]...)
	for _, n := range []int{256, 257, 511, 512, 65536} {
		b, err := value.Put(make([]api.Value, n)...)
		if err != api.ErrSize || len(b) != 0 {
			t.Error("so many values that may not be:", n, b, err)
		}
	}
	if b, err := value.Put(l...); err != api.ErrSize || len(b) != 0 {
		t.Error("256 values:", b, err)
	}
}

func TestP203GetWrongParts(t *testing.T) {
	for _, v := range wrongOnes() {
		b := handBytes(v)
		if l, err := value.Get(b); err == api.OK && !slices.Equal(handBytes(l...), b) {
			t.Errorf("%v: %+v", b, l)
		}
	}
	for k := range 256 {
		if k >= 1 && k <= 3 {
			continue
		}
		for n := range 12 {
			wantNoValues(t, "a Type that is none", append([]byte{1, byte(k)}, make([]byte, n)...))
		}
	}
	for n := 2; n < 256; n++ {
		wantNoValues(t, "a Bool of neither 0 nor 1", []byte{1, 3, byte(n)})
		wantNoValues(t, "such a one among others", []byte{3, 3, 1, 3, byte(n), 3, 0})
	}
	wantNoValues(t, "MaxValue and one more", handBytes(value.Text(tooLong)))
	wantNoValues(t, "a very long one", handBytes(value.Text(strings.Repeat("a", 65535))))
	wantNoValues(t, "one too long among others", handBytes(value.Number(1), value.Text(tooLong), value.Number(1)))
	wantValues(t, "MaxValue", handBytes(value.Text(most)), value.Text(most))
}

func TestP203GetCutShort(t *testing.T) {
	wantNoValues(t, "nil", nil)
	wantNoValues(t, "no bytes", []byte{})
	b := handBytes(value.Number(-1), value.Text("abc"), value.Truth(true), value.Text(""), value.Number(0))
	for n := range b {
		wantNoValues(t, "cut short", b[:n])
	}
	for _, tail := range [][]byte{{0}, {1}, {3, 1}, b, make([]byte, api.MaxBytes)} {
		wantNoValues(t, "more behind", append(slices.Clone(b), tail...))
		wantNoValues(t, "more behind none", append([]byte{0}, tail...))
	}
	for n := range 256 {
		if n != 5 {
			b[0] = byte(n)
			wantNoValues(t, "another count", b)
		}
	}
	wantNoValues(t, "a count alone", []byte{255})
	wantNoValues(t, "many bytes", bytes.Repeat([]byte{3, 1}, 1<<20))
}

// some answers n values that may be.
func some(rnd *rand.Rand, n int) []api.Value {
	l := make([]api.Value, n)
	for i := range l {
		switch rnd.Intn(3) {
		case 0:
			l[i] = value.Number(int(rnd.Uint64()) >> rnd.Intn(64))
		case 1:
			b := make([]byte, rnd.Intn(1+api.MaxValue)>>rnd.Intn(9))
			rnd.Read(b)
			l[i] = value.Text(string(b))
		case 2:
			l[i] = value.Truth(rnd.Intn(2) == 1)
		}
	}
	return l
}

func TestP206GetOfPut(t *testing.T) {
	rnd := rand.New(rand.NewSource(206))
	for n := range 256 {
		l := some(rnd, n)
		b := put(t, l...)
		if !bytes.Equal(b, handBytes(l...)) {
			t.Errorf("the bytes of %+v: %v", l, b)
		}
		wantValues(t, "Get of Put", b, l...)
	}
	for _, v := range rightOnes() {
		wantValues(t, "Get of Put of one", put(t, v), v)
	}
}

func TestP201BytesShareNothing(t *testing.T) {
	room := append(handBytes(value.Text("abc"), value.Number(7)), 1, 2, 3)
	kept := slices.Clone(room)
	b := room[:len(room)-3]
	l, _ := value.Get(b)
	m, _ := value.Get(b)
	if !bytes.Equal(room, kept) {
		t.Error("Get changed what it was handed:", room)
	}
	for i := range room {
		room[i] = 'z'
	}
	l[1].N = 8
	if l[0].B != "abc" || m[0].B != "abc" || m[1].N != 7 {
		t.Error("answers of Get share memory:", l, m)
	}
	p, q := put(t, m...), put(t, m...)
	clear(p[:cap(p)])
	if !bytes.Equal(q, kept[:len(kept)-3]) {
		t.Error("answers of Put share memory:", q)
	}
}

// FuzzGet: of any bytes an error, or values that are written as the same bytes.
func FuzzGet(f *testing.F) {
	f.Add([]byte{})
	f.Add([]byte{0})
	f.Add(handBytes(value.Number(-1), value.Text("abc"), value.Truth(true)))
	f.Add([]byte{1, 3, 2})
	f.Fuzz(func(t *testing.T, b []byte) {
		l, err := value.Get(b)
		if err != api.OK {
			if err != api.ErrForm || len(l) != 0 {
				t.Error(l, err)
			}
			return
		}
		again, err := value.Put(l...)
		if err != api.OK || !bytes.Equal(again, b) {
			t.Error(again, err)
		}
	})
}
