package journal_test

import (
	"reflect"
	"slices"
	"strings"
	"testing"

	"weighhouse/api"
	"weighhouse/journal"
	"weighhouse/sector"
)

func TestP1601NoJournal(t *testing.T) {
	var zero journal.Journal
	for what, j := range map[string]*journal.Journal{"nil": nil, "not made": {}, "a zero one": &zero, "new": new(journal.Journal)} {
		for range 2 {
			for _, b := range [][]byte{nil, {}, []byte("a"), make([]byte, longest+1)} {
				wantErr(t, what+": Append", j.Append(b), api.ErrArg)
			}
			wantErr(t, what+": Sync", j.Sync(), api.ErrArg)
			wantLooks(t, what, j, 0, 0)
		}
	}
}

// TestP1601Calls: a journal has the chapter's calls, and no others.
func TestP1601Calls(t *testing.T) {
	var names []string
	for m := range reflect.TypeFor[*journal.Journal]().Methods() {
		names = append(names, m.Name)
	}
	if want := []string{"Append", "Epoch", "Len", "Sync"}; !slices.Equal(names, want) {
		t.Error(names)
	}
}

func TestP1601NilIsEmpty(t *testing.T) {
	d := newDisk(t, 20)
	j := open(t, d, "log")
	for i, b := range [][]byte{nil, {}, []byte("abc")[:0]} {
		wantErr(t, "Append", j.Append(b), api.OK)
		wantLooks(t, "empty", j, i+1, 1)
		l, e := journal.Split(1, i+1, b)
		if e != api.OK || !slices.Equal(l, byHand(1, i+1, "")) {
			t.Errorf("Split: %q, %d", l, e)
		}
	}
	open(t, d, "log", "", "", "")
}

// TestP1601Pure: Split and Scan change nothing that is handed in, and keep nothing.
func TestP1601Pure(t *testing.T) {
	room := []byte(long(300))
	l, e := journal.Split(1, 1, room[:100])
	if e != api.OK || string(room) != long(300) {
		t.Error("Split changes what is handed in, or the room behind it")
	}
	spoil(room)
	if !slices.Equal(l, byHand(1, 1, long(100))) {
		t.Error("Split keeps what is handed in")
	}
	other, _ := journal.Split(1, 1, []byte(long(100)))
	for i := range l[:cap(l)] {
		l[:cap(l)][i] = "spoilt"
	}
	if !slices.Equal(other, byHand(1, 1, long(100))) {
		t.Error("answers of Split share memory")
	}
	in := row(byHand(1, 1, "a"), byHand(1, 2, long(100)), byHand(1, 3, ""), byHand(2, 4, "b"), []string{"behind", "x"})
	kept := slices.Clone(in)
	records, _, _ := journal.Scan(in[:6])
	if !slices.Equal(in, kept) {
		t.Error("Scan changes what is handed in")
	}
	clear(in)
	if got := texts(records); !slices.Equal(got, []string{"a", long(100), "", "b"}) {
		t.Error("Scan keeps what is handed in: ", short(got))
	}
}

// TestP1601AnswersAreNew: writing all over what Scan and Open answer, and the room
// behind it, changes no other answer, nor disk and journal.
func TestP1601AnswersAreNew(t *testing.T) {
	want := []string{"a", long(43), "", long(44), "", "b", long(1000)}
	d := newDisk(t, 100)
	j := open(t, d, "log")
	add(t, j, want...)
	ruin := func(records [][]byte) {
		for i := range records {
			spoil(records[i])
			for k, s := range want {
				if k > i && string(records[k]) != s {
					t.Errorf("records %d and %d share memory", i, k)
				}
			}
		}
		for i := range records[:cap(records)] {
			records[:cap(records)][i] = []byte("spoilt")
		}
	}
	l, _ := d.Read("log")
	again := func() []string {
		records, _, _ := journal.Scan(l)
		return texts(records)
	}
	for range 2 {
		kept, _, _ := journal.Scan(l)
		records, _, _ := journal.Scan(l)
		ruin(records)
		if !slices.Equal(again(), want) || !slices.Equal(texts(kept), want) {
			t.Error("what Scan answers is not new")
		}
		_, kept, _ = journal.Open(d, "log")
		other, opened, e := journal.Open(d, "log")
		wantErr(t, "Open", e, api.OK)
		ruin(opened)
		wantLooks(t, "Open", other, len(want), 2)
		if !slices.Equal(texts(kept), want) {
			t.Error("what Open answers is not new")
		}
		open(t, d, "log", want...)
	}
	// Nor is kept what is appended.
	b := []byte(strings.Repeat("x", 200))
	wantErr(t, "Append", j.Append(b[:100]), api.OK)
	if string(b) != strings.Repeat("x", 200) {
		t.Error("Append changes what is handed in, or the room behind it")
	}
	spoil(b)
	open(t, d, "log", append(want, strings.Repeat("x", 100))...)
}

// TestP1601Apart: journals hang on their disk and what was called on them, on
// nothing else.
func TestP1601Apart(t *testing.T) {
	one, other := newDisk(t, 10), newDisk(t, 10)
	a, b := open(t, one, "log"), open(t, other, "log")
	add(t, a, "a")
	other.Cut(0)
	wantErr(t, "the other disk", b.Append([]byte("b")), api.ErrPower)
	sync(t, a)
	wantLooks(t, "a", a, 1, 1)
	wantLooks(t, "b", b, 0, 2)
	wantFile(t, "a", one, "log", byHand(1, 1, "a"))
	if other.Used() != 0 {
		t.Error(other.Files())
	}
}

// TestP1601Copies: a copy of a journal is the same journal.
func TestP1601Copies(t *testing.T) {
	d := newDisk(t, 10)
	j := open(t, d, "log")
	c := *j
	add(t, j, "a")
	add(t, &c, "b")
	wantLooks(t, "the journal", j, 2, 1)
	wantLooks(t, "the copy", &c, 2, 1)
	open(t, d, "log", "a", "b")
}

// TestP1601All: whatever is called, nothing panics.
func TestP1601All(t *testing.T) {
	numbers := []int{-1 << 63, -1, 0, 1, 2, greatest, greatest + 1, 1<<63 - 1}
	for _, a := range numbers {
		for _, b := range numbers {
			for _, index := range []int{0, 1, 255, 4095, 4096, 65535} {
				for _, count := range []int{0, 1, 2, 4096, 4097, 65535} {
					for _, size := range []int{0, 1, 42, 43, 44, 255} {
						l := []sector.Sector{{B: hand(a, b, index, count, size, "x")}, {B: hand(a, b+1, index, count, size, long(43))}}
						want, end, epoch := scanByHand(l)
						wantScan(t, "strange sectors", l, want, end, epoch)
					}
				}
			}
		}
	}
}
