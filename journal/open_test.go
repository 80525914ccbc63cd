package journal_test

import (
	"fmt"
	"slices"
	"strings"
	"testing"

	"weighhouse/api"
	"weighhouse/sector"
)

func TestP1603NotThere(t *testing.T) {
	d := newDisk(t, 4)
	for range 3 {
		wantLooks(t, "no file", open(t, d, "log"), 0, 1)
	}
	if d.Used() != 0 || len(d.Files()) != 0 {
		t.Error("Open writes: ", d.Files())
	}
	// Nor is it an operation.
	d.Cut(0)
	for range 3 {
		wantLooks(t, "a fuse at 0", open(t, d, "log"), 0, 1)
	}
	if d.Down() {
		t.Error("Open of a file that is not there is an operation")
	}
	wantErr(t, "the next operation", d.Write("log", 0, "x"), api.ErrPower)
}

func TestP1603Power(t *testing.T) {
	d := newDisk(t, 9)
	add(t, open(t, d, "log"), "a", long(50))
	d.Cut(0)
	wantNoOpen(t, "a fuse at 0", d, "log", api.ErrPower)
	if !d.Down() {
		t.Error("Open of a file that is there is no operation")
	}
	for _, file := range []string{"log", "new"} {
		wantNoOpen(t, "the power is off", d, file, api.ErrPower)
	}
	wantNoOpen(t, "the power is off, and no name", d, "", api.ErrArg)
	// The sync was not done: what was not sure is lost.
	d.Crash(nil)
	wantLooks(t, "behind the crash", open(t, d, "log"), 0, 1)
	// It is one operation.
	add(t, open(t, d, "log"), "b")
	d.Cut(1)
	wantLooks(t, "a fuse at 1", open(t, d, "log", "b"), 1, 2)
	wantNoOpen(t, "a fuse at 0 again", d, "log", api.ErrPower)
	d.Crash(nil)
	wantLooks(t, "synced", open(t, d, "log", "b"), 1, 2)
}

// TestP1603Synced: what Open tells is sure, though no Sync was called.
func TestP1603Synced(t *testing.T) {
	d := newDisk(t, 20)
	lives := []string{"a", long(100), "", long(43), long(44)}
	var told []string
	for i, s := range lives {
		j := open(t, d, "log", told...)
		wantLooks(t, "opened", j, i, i+1)
		add(t, j, s)
		told = append(told, s)
		open(t, d, "log", told...)
		d.Crash(nil)
	}
	open(t, d, "log", told...)
	// One file's Open leaves the others as unsure as they were.
	add(t, open(t, d, "other"), "x")
	add(t, open(t, d, "log", told...), "y")
	open(t, d, "log", append(told, "y")...)
	d.Crash(nil)
	open(t, d, "other")
	open(t, d, "log", append(told, "y")...)
}

// TestP1603Told: journals of files that were laid by hand.
func TestP1603Told(t *testing.T) {
	a, b, c := byHand(3, 1, "a"), byHand(3, 2, long(100)), byHand(7, 3, "")
	for _, x := range []struct {
		what         string
		l            []string
		told         []string
		place, epoch int
	}{
		{"zeros", []string{"", "", ""}, nil, 0, 1},
		{"no sectors of records", []string{"abc", long(64)}, nil, 0, 1},
		{"one record", a, []string{"a"}, 1, 4},
		{"three", slices.Concat(a, b, c), []string{"a", long(100), ""}, 5, 8},
		{"without the first one", slices.Concat(b, c), nil, 0, 8},
		{"a part lacking", slices.Concat(a, b[:2], c), []string{"a"}, 1, 8},
		{"zeros between", slices.Concat(a, []string{""}, b, c), []string{"a"}, 1, 8},
		{"the greatest epoch behind the end", slices.Concat(a, c, b, byHand(5, 9, "z")), []string{"a"}, 1, 8},
		{"a great epoch", byHand(greatest-1, 1, "a"), []string{"a"}, 1, greatest},
	} {
		d := newDisk(t, 20)
		lay(t, d, "log", x.l...)
		j := open(t, d, "log", x.told...)
		wantLooks(t, x.what, j, len(x.told), x.epoch)
		add(t, j, "next")
		laid := row(x.l)
		for i := range laid {
			laid[i].B += strings.Repeat("\x00", 64-len(laid[i].B))
		}
		next := sector.Sector{B: hand(x.epoch, len(x.told)+1, 0, 1, 4, "next")}
		want := append(slices.Clone(laid[:x.place]), next)
		if len(laid) > x.place {
			want = append(want, laid[x.place+1:]...)
		}
		if l, _ := d.Read("log"); !slices.Equal(l, want) {
			t.Errorf("%s: %q, want %q", x.what, shown(l), shown(want))
		}
		open(t, d, "log", append(x.told, "next")...)
	}
}

// TestP1603Bad: a torn sector ends what is told, and is written again.
func TestP1603Bad(t *testing.T) {
	for torn := range 4 {
		d := newDisk(t, 20)
		j := open(t, d, "log")
		records := []string{"a", "b", "c", "d"}
		add(t, j, records...)
		fates := []int{1, 1, 1, 1}
		fates[torn] = 2
		d.Crash(fates)
		j = open(t, d, "log", records[:torn]...)
		wantLooks(t, "torn", j, torn, 2)
		add(t, j, "new")
		open(t, d, "log", append(slices.Clone(records[:torn]), "new")...)
	}
}

// TestP1603GreatestEpoch: an epoch past the greatest one is the journal's, but no
// record's: nothing is appended.
func TestP1603GreatestEpoch(t *testing.T) {
	d := newDisk(t, 20)
	lay(t, d, "log", byHand(greatest, 1, "a")...)
	j := open(t, d, "log", "a")
	for range 3 {
		wantLooks(t, "the greatest epoch", j, 1, greatest+1)
		wantErr(t, "Append", j.Append([]byte("b")), api.ErrArg)
		sync(t, j)
	}
	wantFile(t, "the greatest epoch", d, "log", byHand(greatest, 1, "a"))
	// A greater one is no part's.
	lay(t, d, "other", byHand(greatest+1, 1, "a")...)
	wantLooks(t, "past the greatest epoch", open(t, d, "other"), 0, 1)
}

func TestP1603Names(t *testing.T) {
	for _, file := range []string{"", "0123456789abcdefg", strings.Repeat("x", 1000), " ", "a b", "a\n", "\x00", "\x1f", "\x7f", "\x80", "\xff", "é", "a\x00"} {
		d := newDisk(t, 5)
		wantNoOpen(t, fmt.Sprintf("%q", file), d, file, api.ErrArg)
		d.Cut(0)
		wantNoOpen(t, fmt.Sprintf("%q", file), d, file, api.ErrArg)
		wantErr(t, "off", d.Write("f", 0, "x"), api.ErrPower)
		wantNoOpen(t, fmt.Sprintf("%q with the power off", file), d, file, api.ErrArg)
	}
	d := newDisk(t, 1000)
	for c := byte(33); c <= 126; c++ {
		for _, file := range []string{string(c), strings.Repeat(string(c), 16)} {
			add(t, open(t, d, file), file)
			open(t, d, file, file)
		}
	}
	wantNoOpen(t, "a nil disk", nil, "log", api.ErrArg)
	wantNoOpen(t, "a disk that was not made", new(sector.Disk), "log", api.ErrArg)
	wantNoOpen(t, "neither", nil, "", api.ErrArg)
	wantNoOpen(t, "neither", new(sector.Disk), "", api.ErrArg)
}
