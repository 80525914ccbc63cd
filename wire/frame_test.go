package wire_test

import (
	"bytes"
	"encoding/binary"
	"hash/crc32"
	"math/rand"
	"strings"
	"testing"

	"weighhouse/api"
	"weighhouse/wire"
)

func frame(t *testing.T, in []byte) []byte {
	t.Helper()
	f, err := wire.Frame(in)
	if err != api.OK {
		t.Fatal("a frame of", len(in), "bytes:", err)
	}
	return f
}

// handFrame builds what a frame of any length would be by the chapter's words.
func handFrame(in []byte) []byte {
	f := binary.BigEndian.AppendUint32(nil, uint32(len(in)))
	sum := crc32.Update(crc32.ChecksumIEEE(f), crc32.IEEETable, in)
	return append(binary.LittleEndian.AppendUint32(f, sum), in...)
}

func wantFrames(t *testing.T, what string, b []byte, end int, want ...[]byte) {
	t.Helper()
	l, n := wire.Frames(b)
	if n != end || len(l) != len(want) {
		t.Errorf("%s: %d frames to %d, want %d to %d", what, len(l), n, len(want), end)
		return
	}
	for i, in := range l {
		if !bytes.Equal(in, want[i]) {
			t.Errorf("%s: frame %d is another one", what, i)
		}
	}
}

func someBytes(rnd *rand.Rand, n int) []byte {
	b := make([]byte, n)
	rnd.Read(b)
	return b
}

func TestP104Sum(t *testing.T) {
	if n := wire.Sum([]byte("123456789")); n != 0xcbf43926 {
		t.Errorf("%#x", n)
	}
	for n := range 256 {
		b := []byte{byte(n)}
		if got, want := wire.Sum(b), crc32.ChecksumIEEE(b); got != want {
			t.Errorf("of %d: %#x, want %#x", n, got, want)
		}
	}
	rnd := rand.New(rand.NewSource(104))
	for _, n := range []int{0, 2, 3, 4, 7, 8, 100, 65536, api.MaxBytes, api.MaxBytes + 1} {
		b := someBytes(rnd, n)
		if got, want := wire.Sum(b), crc32.ChecksumIEEE(b); got != want {
			t.Errorf("of %d bytes: %#x, want %#x", n, got, want)
		}
	}
}

func TestP104Frame(t *testing.T) {
	f := frame(t, []byte("a"))
	wantBytes(t, "the frame of a", f[:4], 0, 0, 0, 1)
	if sum := crc32.ChecksumIEEE([]byte{0, 0, 0, 1, 'a'}); binary.LittleEndian.Uint32(f[4:]) != sum {
		t.Errorf("the frame of a: %v, want the sum %#x", f, sum)
	}
	rnd := rand.New(rand.NewSource(104))
	for _, n := range []int{0, 1, 255, 256, 65536, api.MaxBytes} {
		in := someBytes(rnd, n)
		if f := frame(t, in); !bytes.Equal(f, handFrame(in)) {
			t.Error("the frame of", n, "bytes")
		}
	}
}

func TestP104Sizes(t *testing.T) {
	most := make([]byte, api.MaxBytes)
	wantFrames(t, "MaxBytes", frame(t, most), 8+api.MaxBytes, most)
	f, err := wire.Frame(make([]byte, api.MaxBytes+1))
	if err != api.ErrSize || len(f) != 0 {
		t.Error("MaxBytes and one more:", len(f), err)
	}
	more := handFrame(make([]byte, api.MaxBytes+1))
	wantFrames(t, "no frame of MaxBytes and one more", more, 0)
	one := frame(t, []byte("x"))
	wantFrames(t, "none behind one", append(bytes.Clone(one), more...), len(one), []byte("x"))
	wantFrames(t, "a huge length", []byte{255, 255, 255, 255, 0, 0, 0, 0, 1}, 0)
	wantFrames(t, "zeros, whose sum is another one", make([]byte, 64), 0)
}

func TestP104CutOff(t *testing.T) {
	one, two := frame(t, []byte("one")), frame(t, []byte("second"))
	b := append(bytes.Clone(one), two...)
	for n := range b {
		if n < len(one) {
			wantFrames(t, "cut in the first", b[:n], 0)
		} else {
			wantFrames(t, "cut in the second", b[:n], len(one), []byte("one"))
		}
	}
	wantFrames(t, "both", b, len(b), []byte("one"), []byte("second"))
}

func TestP104FirstOnesOnly(t *testing.T) {
	one, two := frame(t, []byte("one")), frame(t, []byte("two"))
	b := append(append(bytes.Clone(one), 1), two...)
	wantFrames(t, "a frame behind what is none", b, len(one), []byte("one"))
	wantFrames(t, "none at the beginning", b[1:], 0)
}

func TestP106ThereAndBack(t *testing.T) {
	rnd := rand.New(rand.NewSource(106))
	tails := [][]byte{nil, {0}, {1, 2}, make([]byte, 8), bytes.Repeat([]byte{255}, 20)}
	for range 200 {
		var all []byte
		list := make([][]byte, rnd.Intn(8))
		for i := range list {
			list[i] = someBytes(rnd, rnd.Intn(40))
			all = append(all, frame(t, list[i])...)
		}
		for _, tail := range tails {
			wantFrames(t, "frames and a tail", append(bytes.Clone(all), tail...), len(all), list...)
		}
	}
	wantFrames(t, "empty frames", bytes.Repeat(frame(t, nil), 3), 24, nil, nil, nil)
}

func TestP106OneOtherByte(t *testing.T) {
	for _, in := range []string{"", "a", "one", strings.Repeat("\x00", 20)} {
		f := frame(t, []byte(in))
		for i := range f {
			for d := 1; d < 256; d++ {
				f[i] ^= byte(d)
				if l, end := wire.Frames(f); end == len(f) && len(l) == 1 {
					t.Errorf("%q with the byte %d turned by %d is a frame of its length", in, i, d)
				}
				f[i] ^= byte(d)
			}
		}
		wantFrames(t, "the frame itself", f, len(f), []byte(in))
	}
}

func TestP106OneOtherByteOfMany(t *testing.T) {
	rnd := rand.New(rand.NewSource(107))
	in := someBytes(rnd, 5000)
	f := frame(t, in)
	for range 500 {
		i := rnd.Intn(len(f))
		d := byte(1 + rnd.Intn(255))
		f[i] ^= d
		wantFrames(t, "another byte", f, 0)
		f[i] ^= d
	}
}

// FuzzFrames: of any bytes, the frames are written as the same bytes, and
// none begins where they end.
func FuzzFrames(f *testing.F) {
	f.Add([]byte{})
	f.Add(handFrame(nil))
	f.Add(handFrame([]byte("one")))
	f.Add(append(handFrame([]byte("one")), handFrame(nil)...))
	f.Add(append(handFrame([]byte("one")), 0, 0, 0, 0))
	f.Fuzz(func(t *testing.T, b []byte) {
		l, end := wire.Frames(b)
		var again []byte
		for _, in := range l {
			again = append(again, frame(t, in)...)
		}
		if end != len(again) || !bytes.Equal(again, b[:end]) {
			t.Error(l, end)
		}
		if l, n := wire.Frames(b[end:]); len(l) != 0 || n != 0 {
			t.Error("a frame is left:", l, n)
		}
	})
}

// FuzzReader: of any bytes, what is read is written as the same bytes.
func FuzzReader(f *testing.F) {
	f.Add([]byte{}, []byte{})
	f.Add([]byte{1, 0, 0, 0, 0, 0, 0, 0, 2, 0, 1, 97}, []byte{0, 1, 2})
	f.Add([]byte{0, 9, 97}, []byte{2, 0})
	f.Fuzz(func(t *testing.T, b, kinds []byte) {
		r, w := wire.NewReader(b), wire.NewWriter()
		for _, k := range kinds {
			left := r.Left()
			x := written{kind: int(k % 3)}
			switch x.kind {
			case 0:
				x.n = r.Byte()
			case 1:
				x.n = r.Int()
			case 2:
				x.s = r.Text()
			}
			if r.Err() == api.OK {
				wantErr(t, "writing", x.put(w), api.OK)
			} else if x.n != 0 || x.s != "" || r.Left() != left {
				t.Error("read behind an error:", x, left, r.Left())
			}
		}
		if passed := b[:len(b)-r.Left()]; !bytes.Equal(w.Bytes(), passed) {
			t.Error(w.Bytes(), passed)
		}
	})
}
