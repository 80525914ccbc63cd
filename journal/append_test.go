package journal_test

import (
	"fmt"
	"slices"
	"strings"
	"testing"

	"weighhouse/api"
	"weighhouse/journal"
	"weighhouse/sector"
)

func TestP1604Append(t *testing.T) {
	d := newDisk(t, 1<<16)
	j := open(t, d, "log")
	var told, sectors []string
	for i, n := range lengths {
		wantLooks(t, "ahead of it", j, i, 1)
		add(t, j, long(n))
		told, sectors = append(told, long(n)), append(sectors, byHand(1, i+1, long(n))...)
		wantFile(t, fmt.Sprint(n, " bytes"), d, "log", sectors)
	}
	sync(t, j)
	wantLooks(t, "synced", j, len(lengths), 1)
	d.Crash(nil)
	wantFile(t, "behind a crash", d, "log", sectors)
	wantLooks(t, "behind a crash", open(t, d, "log", told...), len(lengths), 2)
}

// TestP1604Lives: epochs and numbers go on from life to life.
func TestP1604Lives(t *testing.T) {
	d := newDisk(t, 100)
	var told, sectors []string
	for life := 1; life <= 6; life++ {
		j := open(t, d, "log", told...)
		for range life {
			n := len(told) + 1
			wantLooks(t, "ahead of it", j, n-1, life)
			add(t, j, long(9*n))
			told, sectors = append(told, long(9*n)), append(sectors, byHand(life, n, long(9*n))...)
			wantFile(t, "appended", d, "log", sectors)
		}
		sync(t, j)
		if life%2 == 0 {
			d.Crash(nil)
		}
	}
}

// TestP1604TooLong: nothing has changed, and it is no operation.
func TestP1604TooLong(t *testing.T) {
	d := newDisk(t, 10)
	j := open(t, d, "log")
	for _, n := range []int{longest + 1, longest + 43, 2 * longest} {
		wantErr(t, "too long, and first", j.Append(make([]byte, n)), api.ErrSize)
		wantLooks(t, "too long, and first", j, 0, 1)
	}
	if d.Used() != 0 {
		t.Error("sectors of a record that is too long: ", d.Used())
	}
	add(t, j, "a")
	d.Cut(0)
	wantErr(t, "too long", j.Append(make([]byte, longest+1)), api.ErrSize)
	wantLooks(t, "too long", j, 1, 1)
	wantErr(t, "the next operation", j.Append(nil), api.ErrPower)
	wantLooks(t, "the next operation", j, 1, 2)
	wantErr(t, "too long, with the power off", j.Append(make([]byte, longest+1)), api.ErrSize)
	wantLooks(t, "too long, with the power off", j, 1, 2)
}

// TestP1604Full: a disk that is full in the midst of a record, at each part of it.
func TestP1604Full(t *testing.T) {
	a, x, y := "a", long(43*4+5), strings.Repeat("y", 60)
	for room := range 5 {
		d := newDisk(t, 1+room)
		j := open(t, d, "log")
		add(t, j, a)
		for i := range 3 {
			wantLooks(t, "ahead of it", j, 1, 1+i)
			wantErr(t, fmt.Sprint("room for ", room), j.Append([]byte(x)), api.ErrFull)
			wantFile(t, "full", d, "log", byHand(1, 1, a), byHand(1+i, 2, x)[:room])
			wantLooks(t, "full", j, 1, 2+i)
		}
		sync(t, j)
		d.Crash(nil)
		wantFile(t, "full, and synced", d, "log", byHand(1, 1, a), byHand(3, 2, x)[:room])
		epoch := 4
		if room == 0 {
			epoch = 2 // of the failed ones nothing is there
		}
		wantLooks(t, "full, and opened", open(t, d, "log", a), 1, epoch)
		if room < 2 {
			continue
		}
		// What takes no more room than the parts that are there is appended in
		// their place, and they are no parts of it.
		add(t, j, y)
		wantLooks(t, "there is room", j, 2, 4)
		wantFile(t, "there is room", d, "log", byHand(1, 1, a), byHand(4, 2, y), byHand(3, 2, x)[2:room])
		if room > 2 {
			add(t, j, "z")
			open(t, d, "log", a, y, "z")
		} else {
			wantErr(t, "full again", j.Append(nil), api.ErrFull)
			wantLooks(t, "full again", j, 2, 5)
			open(t, d, "log", a, y)
		}
	}
}

// TestP1604FullAlike: a record as long as the failed one that it takes the place of
// is told only if all of its own parts are there.
func TestP1604FullAlike(t *testing.T) {
	d := newDisk(t, 4)
	lay(t, d, "other", "x")
	j := open(t, d, "log")
	wantErr(t, "Append", j.Append([]byte(strings.Repeat("x", 150))), api.ErrFull)
	sync(t, j)
	d.Crash(nil)
	// The other file is gone: there is room.
	add(t, j, strings.Repeat("y", 150))
	wantLooks(t, "there is room", j, 1, 2)
	d.Crash([]int{0, 1, 1, 1})
	wantLooks(t, "the first part lost", open(t, d, "log"), 0, 3)
	add(t, open(t, d, "log"), strings.Repeat("z", 150))
	open(t, d, "log", strings.Repeat("z", 150))
	d.Crash(nil)
	wantLooks(t, "all parts", open(t, d, "log", strings.Repeat("z", 150)), 1, 4)
}

// TestP1604FullFiles: where no file more may be nothing is ever written.
func TestP1604FullFiles(t *testing.T) {
	d := newDisk(t, 1000)
	for i := range api.MaxFiles {
		lay(t, d, fmt.Sprint("f", i), "x")
	}
	j := open(t, d, "log")
	for i := range 3 {
		wantErr(t, "Append", j.Append([]byte("a")), api.ErrFull)
		wantLooks(t, "no file more", j, 0, 2+i)
		d.Cut(0)
		sync(t, j)
		d.Cut(-1)
	}
	if slices.Contains(d.Files(), "log") || d.Down() {
		t.Error("there is the file, or no power")
	}
	d.Crash(nil)
	add(t, j, "b")
	sync(t, j)
	wantFile(t, "a file more", d, "log", byHand(4, 1, "b"))
}

// TestP1604Power: the power goes at each operation of an Append.
func TestP1604Power(t *testing.T) {
	x := long(43*3 + 1)
	for k := range 4 {
		for _, ahead := range [][]string{nil, {"a"}, {"a", long(44)}} {
			d := newDisk(t, 20)
			j := open(t, d, "log")
			add(t, j, ahead...)
			var sectors []string
			for i, s := range ahead {
				sectors = append(sectors, byHand(1, i+1, s)...)
			}
			sync(t, j)
			d.Cut(k)
			for i := range 3 {
				wantErr(t, "Append", j.Append([]byte(x)), api.ErrPower)
				wantLooks(t, "off", j, len(ahead), 2+i)
			}
			if !d.Down() || d.Used() != len(sectors)+k {
				t.Error(k, d.Down(), d.Used())
			}
			if d.Used() > 0 {
				wantErr(t, "off: Sync", j.Sync(), api.ErrPower)
			} else {
				wantErr(t, "off, and nothing was ever written: Sync", j.Sync(), api.OK)
			}
			wantLooks(t, "off: Sync", j, len(ahead), 4)
			d.Crash([]int{1, 1, 1, 1})
			if len(sectors)+k > 0 {
				wantFile(t, "on", d, "log", sectors, byHand(1, len(ahead)+1, x)[:k])
			}
			epoch := 2
			if len(sectors)+k == 0 {
				epoch = 1
			}
			wantLooks(t, "on", open(t, d, "log", ahead...), len(ahead), epoch)
		}
	}
	// A fuse that is long enough.
	d := newDisk(t, 20)
	j := open(t, d, "log")
	d.Cut(5)
	add(t, j, x)
	sync(t, j)
	wantLooks(t, "a long fuse", j, 1, 1)
	wantErr(t, "its end", j.Sync(), api.ErrPower)
	wantLooks(t, "its end", j, 1, 1)
	d.Crash(nil)
	open(t, d, "log", x)
}

// TestP1604Sync: it is the file's, one operation, and makes sure what was appended.
func TestP1604Sync(t *testing.T) {
	d := newDisk(t, 20)
	j := open(t, d, "log")
	add(t, j, "a", long(50))
	d.Cut(1)
	sync(t, j)
	wantErr(t, "a fuse at 0", j.Sync(), api.ErrPower)
	wantErr(t, "off", j.Sync(), api.ErrPower)
	d.Crash(nil)
	j = open(t, d, "log", "a", long(50))
	d.Cut(0)
	wantErr(t, "nothing new", j.Sync(), api.ErrPower)
	d.Crash(nil)
	// Not sure without it.
	j = open(t, d, "log", "a", long(50))
	add(t, j, "b")
	d.Crash(nil)
	j = open(t, d, "log", "a", long(50))
	add(t, j, "c")
	sync(t, j)
	add(t, j, "d")
	d.Crash(nil)
	open(t, d, "log", "a", long(50), "c")
}

// TestP1604SyncNothing: where nothing was ever written a Sync is OK, whether there is
// power or not, and no operation.
func TestP1604SyncNothing(t *testing.T) {
	d := newDisk(t, 20)
	j := open(t, d, "log")
	for range 3 {
		sync(t, j)
		wantLooks(t, "nothing", j, 0, 1)
	}
	lay(t, d, "other", "x")
	d.Cut(0)
	sync(t, j)
	if d.Down() || d.Used() != 1 {
		t.Error("a Sync of nothing is an operation")
	}
	wantErr(t, "the next operation", d.Write("other", 0, "x"), api.ErrPower)
	sync(t, j)
	d.Crash(nil)
	sync(t, j)
	// What another one wrote was written, too.
	add(t, open(t, d, "log"), "a")
	sync(t, j)
	d.Cut(0)
	wantErr(t, "a fuse at 0", j.Sync(), api.ErrPower)
	wantErr(t, "off", j.Sync(), api.ErrPower)
	d.Crash(nil)
	open(t, d, "log", "a")
	lay(t, d, "none", "no record")
	j = open(t, d, "none")
	d.Cut(0)
	wantErr(t, "a file without records", j.Sync(), api.ErrPower)
}

// TestP1604Lost: a journal that goes on behind a crash that took what it wrote gets
// the disk's errors.
func TestP1604Lost(t *testing.T) {
	d := newDisk(t, 20)
	j := open(t, d, "log")
	add(t, j, "a", "b")
	d.Crash(nil)
	wantErr(t, "no file", j.Sync(), api.ErrNone)
	wantErr(t, "past the end", j.Append([]byte("c")), api.ErrArg)
	wantLooks(t, "past the end", j, 2, 2)
	open(t, d, "log")
}

// TestP1604TwoJournals: neither changes the other.
func TestP1604TwoJournals(t *testing.T) {
	for fate := range 3 {
		d := newDisk(t, 100)
		a, b := open(t, d, "a"), open(t, d, "b")
		add(t, a, "one", long(100))
		add(t, b, long(44))
		wantLooks(t, "a", a, 2, 1)
		wantLooks(t, "b", b, 1, 1)
		sync(t, a)
		add(t, b, "two")
		wantErr(t, "too long", a.Append(make([]byte, longest+1)), api.ErrSize)
		wantFile(t, "a", d, "a", byHand(1, 1, "one"), byHand(1, 2, long(100)))
		wantFile(t, "b", d, "b", byHand(1, 1, long(44)), byHand(1, 2, "two"))
		d.Crash([]int{fate, fate, fate})
		a = open(t, d, "a", "one", long(100))
		if fate == 1 {
			b = open(t, d, "b", long(44), "two")
		} else {
			b = open(t, d, "b")
		}
		wantLooks(t, "a", a, 2, 2)
		wantLooks(t, "b", b, b.Len(), 1+fate%2)
		add(t, a, "three")
		add(t, b, "four")
		sync(t, b)
		d.Crash(nil)
		open(t, d, "a", "one", long(100))
		if l, _, _ := scanFile(t, d, "b"); len(l) != b.Len() || l[len(l)-1] != "four" {
			t.Error(l)
		}
	}
}

// TestP1604Number: where many records are each has its number.
func TestP1604Number(t *testing.T) {
	const n = 1 << 16
	d := newDisk(t, n)
	j := open(t, d, "log")
	for i := range n {
		if e := j.Append(nil); e != api.OK || j.Len() != i+1 {
			t.Fatal(i, e, j.Len())
		}
	}
	wantErr(t, "full", j.Append(nil), api.ErrFull)
	wantLooks(t, "full", j, n, 2)
	l, _ := d.Read("log")
	if want := (sector.Sector{B: hand(1, n, 0, 1, 0, "")}); len(l) != n || l[n-1] != want {
		t.Error(len(l), l[n-1])
	}
	j, records, e := journal.Open(d, "log")
	if e != api.OK || len(records) != n {
		t.Error(e, len(records))
	}
	wantLooks(t, "opened", j, n, 2)
}

// scanFile answers what the file's sectors tell.
func scanFile(t *testing.T, d *sector.Disk, file string) ([]string, int, int) {
	t.Helper()
	l, e := d.Read(file)
	wantErr(t, "Read", e, api.OK)
	records, end, epoch := journal.Scan(l)
	return texts(records), end, epoch
}
