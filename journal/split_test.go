package journal_test

import (
	"slices"
	"strings"
	"testing"

	"weighhouse/api"
	"weighhouse/journal"
)

// lengths are those of records at which something changes.
var lengths = []int{0, 1, 2, 42, 43, 44, 85, 86, 87, 128, 129, 130, 430, 431, 43 * 256, 43*256 + 1, longest - 43, longest - 42, longest - 1, longest}

func TestP1602Split(t *testing.T) {
	for _, n := range lengths {
		for _, epoch := range []int{1, 2, 255, 256, 0x0102030405060708, greatest - 1, greatest} {
			b := long(n)
			number := greatest + 1 - epoch
			l, e := journal.Split(epoch, number, []byte(b))
			if want := byHand(epoch, number, b); e != api.OK || !slices.Equal(l, want) {
				t.Errorf("%d bytes, epoch %d: %d sectors, want %d (error %d)", n, epoch, len(l), len(want), e)
			}
		}
	}
}

func TestP1602SplitWritten(t *testing.T) {
	zeros := func(n int) string { return strings.Repeat("\x00", n) }
	head := zeros(6) + "\x01\x02" + zeros(7) + "\x03"
	b := strings.Repeat("0123456789", 4)
	for _, x := range []struct {
		b    string
		want []string
	}{
		{"", []string{head + "\x00\x00\x00\x01\x00" + zeros(43)}},
		{"ab", []string{head + "\x00\x00\x00\x01\x02ab" + zeros(41)}},
		{"\x00\xff\x00", []string{head + "\x00\x00\x00\x01\x03\x00\xff\x00" + zeros(40)}},
		{b + "abc", []string{head + "\x00\x00\x00\x01\x2b" + b + "abc"}},
		{b + "abcd", []string{head + "\x00\x00\x00\x02\x2b" + b + "abc", head + "\x00\x01\x00\x02\x01d" + zeros(42)}},
		{b + "abc" + b + "ABC", []string{head + "\x00\x00\x00\x02\x2b" + b + "abc", head + "\x00\x01\x00\x02\x2b" + b + "ABC"}},
	} {
		l, e := journal.Split(0x102, 3, []byte(x.b))
		if e != api.OK || !slices.Equal(l, x.want) {
			t.Errorf("%q: %q, want %q (error %d)", x.b, l, x.want, e)
		}
	}
	l, e := journal.Split(0x102, 3, []byte(long(longest)))
	if e != api.OK || len(l) != 4096 || l[4095][:21] != head+"\x0f\xff\x10\x00\x2b" || l[256][:21] != head+"\x01\x00\x10\x00\x2b" {
		t.Errorf("the longest record: %d sectors, error %d", len(l), e)
	}
}

func wantNoSplit(t *testing.T, epoch, number int, b []byte, want api.Errno) {
	t.Helper()
	if l, e := journal.Split(epoch, number, b); len(l) != 0 || e != want {
		t.Errorf("Split of %d, %d and %d bytes: %d sectors, error %d, want %d", epoch, number, len(b), len(l), e, want)
	}
}

func TestP1602SplitErrors(t *testing.T) {
	const least = -1 << 63
	tooLong := make([]byte, longest+1)
	for _, n := range []int{0, -1, -greatest, least, least + 1, greatest + 1, 1<<63 - 1} {
		for _, b := range [][]byte{nil, []byte("a"), tooLong} {
			wantNoSplit(t, n, 1, b, api.ErrArg)
			wantNoSplit(t, 1, n, b, api.ErrArg)
			wantNoSplit(t, n, n, b, api.ErrArg)
			wantNoSplit(t, greatest, n, b, api.ErrArg)
		}
	}
	for _, n := range []int{longest + 1, longest + 43, longest + 44, 16 * longest} {
		wantNoSplit(t, 1, 1, make([]byte, n), api.ErrSize)
		wantNoSplit(t, greatest, greatest, make([]byte, n), api.ErrSize)
	}
	for _, n := range []int{1, 2, greatest - 1, greatest} {
		for _, m := range []int{1, greatest} {
			l, e := journal.Split(n, m, tooLong[:longest])
			if len(l) != 4096 || e != api.OK {
				t.Errorf("Split of %d, %d: %d sectors, error %d", n, m, len(l), e)
			}
		}
	}
}
