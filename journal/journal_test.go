package journal_test

import (
	"encoding/binary"
	"fmt"
	"slices"
	"strings"
	"testing"

	"weighhouse/api"
	"weighhouse/journal"
	"weighhouse/sector"
)

const (
	greatest = 1 << 62 // epoch, and number
	longest  = 43 * 4096
)

// hand answers a sector by the chapter's words, whatever its numbers are.
func hand(epoch, number, index, count, size int, b string) string {
	s := binary.BigEndian.AppendUint64(nil, uint64(epoch))
	s = binary.BigEndian.AppendUint64(s, uint64(number))
	s = binary.BigEndian.AppendUint16(s, uint16(index))
	s = binary.BigEndian.AppendUint16(s, uint16(count))
	s = append(append(s, byte(size)), b...)
	return string(append(s, make([]byte, 64-len(s))...))
}

// byHand answers a record's sectors by the chapter's words.
func byHand(epoch, number int, b string) []string {
	chunks := []string{}
	for len(b) > 43 {
		chunks, b = append(chunks, b[:43]), b[43:]
	}
	chunks = append(chunks, b)
	var l []string
	for i, c := range chunks {
		l = append(l, hand(epoch, number, i, len(chunks), len(c), c))
	}
	return l
}

// row answers sectors of these lists, one behind the other.
func row(lists ...[]string) []sector.Sector {
	var l []sector.Sector
	for _, x := range lists {
		for _, s := range x {
			l = append(l, sector.Sector{B: s})
		}
	}
	return l
}

// long answers n bytes of which no two parts are alike, none of them 0.
func long(n int) string {
	b := []byte{}
	for i := 0; len(b) < n; i++ {
		b = fmt.Appendf(b, "%d:%x,", i, i*7919)
	}
	return string(b[:n])
}

func texts(records [][]byte) []string {
	var l []string
	for _, b := range records {
		l = append(l, string(b))
	}
	return l
}

// short shows texts without their lengths going past all bounds.
func short(l []string) string {
	var b strings.Builder
	for _, s := range l {
		fmt.Fprintf(&b, "%d %.12q; ", len(s), s)
	}
	return b.String()
}

func newDisk(t testing.TB, most int) *sector.Disk {
	t.Helper()
	d, e := sector.New(most)
	if e != api.OK {
		t.Fatal("a new disk: ", e)
	}
	return d
}

func wantErr(t testing.TB, what string, got, want api.Errno) {
	t.Helper()
	if got != want {
		t.Errorf("%s: error %d, want %d", what, got, want)
	}
}

// open answers the file's journal, of which these records are told.
func open(t testing.TB, d *sector.Disk, file string, want ...string) *journal.Journal {
	t.Helper()
	j, l, e := journal.Open(d, file)
	if e != api.OK || j == nil {
		t.Fatal("Open of ", file, ": ", e)
	}
	if got := texts(l); !slices.Equal(got, want) {
		t.Errorf("Open of %s tells %s want %s", file, short(got), short(want))
	}
	if j.Len() != len(l) {
		t.Errorf("Open of %s: Len %d, want %d", file, j.Len(), len(l))
	}
	return j
}

// wantNoOpen: there is an error, and nothing beside it.
func wantNoOpen(t testing.TB, what string, d *sector.Disk, file string, want api.Errno) {
	t.Helper()
	j, l, e := journal.Open(d, file)
	if j != nil || len(l) != 0 || e != want {
		t.Errorf("%s: Open: %v, %d records, error %d, want %d", what, j, len(l), e, want)
	}
}

func wantLooks(t testing.TB, what string, j *journal.Journal, count, epoch int) {
	t.Helper()
	if j.Len() != count || j.Epoch() != epoch {
		t.Errorf("%s: Len %d and Epoch %d, want %d and %d", what, j.Len(), j.Epoch(), count, epoch)
	}
}

// add appends records, all with OK.
func add(t testing.TB, j *journal.Journal, l ...string) {
	t.Helper()
	for _, s := range l {
		if e := j.Append([]byte(s)); e != api.OK {
			t.Fatalf("Append of %.12q: error %d", s, e)
		}
	}
}

func sync(t testing.TB, j *journal.Journal) {
	t.Helper()
	wantErr(t, "Sync", j.Sync(), api.OK)
}

// lay writes sectors to a file from its beginning on.
func lay(t testing.TB, d *sector.Disk, file string, l ...string) {
	t.Helper()
	for i, s := range l {
		if e := d.Write(file, i, s); e != api.OK {
			t.Fatal("sector ", i, " of ", file, ": ", e)
		}
	}
}

// shown answers what sectors have, and bad for those that can't be read.
func shown(l []sector.Sector) []string {
	var out []string
	for _, s := range l {
		if s.Bad {
			s.B = "bad"
		}
		out = append(out, s.B)
	}
	return out
}

// wantFile: the file's sectors are these.
func wantFile(t testing.TB, what string, d *sector.Disk, file string, lists ...[]string) {
	t.Helper()
	l, e := d.Read(file)
	if want := row(lists...); e != api.OK || !slices.Equal(l, want) {
		t.Errorf("%s: %s has %q, want %q (error %d)", what, file, shown(l), shown(want), e)
	}
}

// spoil changes b and all the room behind it.
func spoil(b []byte) {
	b = b[:cap(b)]
	for i := range b {
		b[i] ^= 255
	}
}
