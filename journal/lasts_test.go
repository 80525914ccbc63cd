package journal_test

import (
	"fmt"
	"math/rand"
	"slices"
	"strings"
	"testing"

	"weighhouse/api"
	"weighhouse/journal"
	"weighhouse/sector"
)

// keeper holds a journal to what lasts.
type keeper struct {
	disk   *sector.Disk
	file   string
	j      *journal.Journal
	sure   []string // that Open told, or that were there at the last Sync with OK
	unsure []string // appended with OK behind that
	maybe  []string // whose Append answered ErrPower
}

// opened answers the keeper of a new journal on d.
func opened(t testing.TB, d *sector.Disk, file string) *keeper {
	t.Helper()
	k := &keeper{disk: d, file: file}
	if told, e := k.reopen(t); e != api.OK || len(told) != 0 {
		t.Fatal("a new journal: ", short(told), e)
	}
	return k
}

// reopen opens the file again, and holds what is told to what lasts.
func (k *keeper) reopen(t testing.TB) ([]string, api.Errno) {
	t.Helper()
	j, records, e := journal.Open(k.disk, k.file)
	if e != api.OK {
		return nil, e
	}
	told := texts(records)
	if !k.mayTell(told) {
		t.Fatalf("Open tells %s sure are %s unsure %s perhaps %s", short(told), short(k.sure), short(k.unsure), short(k.maybe))
	}
	k.j, k.sure, k.unsure, k.maybe = j, told, nil, nil
	return told, api.OK
}

func (k *keeper) mayTell(told []string) bool {
	all := slices.Concat(k.sure, k.unsure, k.maybe)
	return len(told) >= len(k.sure) && len(told) <= len(all) && slices.Equal(told, all[:len(told)])
}

func (k *keeper) add(t testing.TB, s string) api.Errno {
	t.Helper()
	count := k.j.Len()
	e := k.j.Append([]byte(s))
	switch e {
	case api.OK:
		k.unsure = append(k.unsure, s)
		count++
	case api.ErrPower:
		if len(k.maybe) == 0 {
			k.maybe = []string{s}
		}
	case api.ErrFull:
	default:
		t.Fatal("Append: ", e)
	}
	if k.j.Len() != count {
		t.Fatal("Len ", k.j.Len(), ", want ", count)
	}
	return e
}

func (k *keeper) sync(t testing.TB) api.Errno {
	t.Helper()
	e := k.j.Sync()
	switch e {
	case api.OK:
		k.sure, k.unsure = append(k.sure, k.unsure...), nil
	case api.ErrPower:
	default:
		t.Fatal("Sync: ", e)
	}
	return e
}

// do does what a program says, till the power goes: s is a Sync, all others are the
// lengths of records.
func (k *keeper) do(t testing.TB, program string, mark string) {
	t.Helper()
	for i, word := range strings.Fields(program) {
		e := api.OK
		if word == "s" {
			e = k.sync(t)
		} else {
			n := 0
			fmt.Sscan(word, &n)
			e = k.add(t, strings.Repeat(fmt.Sprint(mark, i), n)[:n])
		}
		if e == api.ErrPower {
			return
		}
	}
}

// fatesOf answers the nth row of m fates.
func fatesOf(n, m int) []int {
	l := make([]int, m)
	for i := range l {
		l[i], n = n%3, n/3
	}
	return l
}

func pow3(m int) int {
	n := 1
	for range m {
		n *= 3
	}
	return n
}

func TestP1605Example(t *testing.T) {
	d := newDisk(t, 10)
	j := open(t, d, "log")
	add(t, j, "a")
	sync(t, j)
	add(t, j, "b")
	d.Crash([]int{0})
	open(t, d, "log", "a")
}

// TestP1605Fates: all fates of a record of several parts, and of one behind it.
func TestP1605Fates(t *testing.T) {
	for n := range pow3(5) {
		fates := fatesOf(n, 5)
		d := newDisk(t, 10)
		j := open(t, d, "log")
		add(t, j, "a")
		sync(t, j)
		add(t, j, long(100), long(44))
		d.Crash(fates)
		want := []string{"a"}
		if slices.Equal(fates[:3], []int{1, 1, 1}) {
			want = append(want, long(100))
			if slices.Equal(fates[3:], []int{1, 1}) {
				want = append(want, long(44))
			}
		}
		open(t, d, "log", want...)
	}
}

// TestP1605OneLife: programs, with the power going at each operation, and all fates.
func TestP1605OneLife(t *testing.T) {
	for _, program := range []string{"1 1 1 1 1 1", "1 s 50 1 s 1", "100 50 0 s 1 1", "0 s s 90 s 50", "1 s 1 s 1 s 200", "43 44 86 s 87"} {
		for k := range 13 {
			for n := range pow3(6) {
				d := newDisk(t, 20)
				x := opened(t, d, "log")
				d.Cut(k)
				x.do(t, program, "x")
				d.Crash(fatesOf(n, 6))
				told, e := x.reopen(t)
				if e != api.OK {
					t.Fatal(e)
				}
				x.do(t, "50 1 s", "y")
				d.Crash(nil)
				if again, e := x.reopen(t); e != api.OK || len(again) != len(told)+2 {
					t.Fatal(program, k, n, short(again), e)
				}
			}
		}
	}
}

// TestP1605TwoLives: what stands behind the end from a life before is no record of
// the next one, whatever fates both have.
func TestP1605TwoLives(t *testing.T) {
	for _, lives := range [][2]string{
		{"1 1 1 1", "1 1"}, {"1 1 1 1", "50 1"}, {"50 50", "1 50"}, {"50 50", "50 50"}, {"1 100", "100 1"}, {"1 s 1 1", "1 1 1"}, {"1 50 1", "1 s 50"}, {"90 1", "1 1 1 1"},
	} {
		for n := range pow3(4) {
			for m := range pow3(4) {
				d := newDisk(t, 20)
				x := opened(t, d, "log")
				x.do(t, lives[0], "x")
				d.Crash(fatesOf(n, 4))
				x.reopen(t)
				x.do(t, lives[1], "y")
				d.Crash(fatesOf(m, 4))
				if _, e := x.reopen(t); e != api.OK {
					t.Fatal(e)
				}
			}
		}
	}
}

// TestP1605ThreeLives: the same, with records of one part, life after life.
func TestP1605ThreeLives(t *testing.T) {
	for n := range pow3(9) {
		d := newDisk(t, 20)
		x := opened(t, d, "log")
		for life := range 3 {
			x.do(t, "3 3 3", fmt.Sprint("life", life))
			d.Crash(fatesOf(n/pow3(3*life), 3))
			if _, e := x.reopen(t); e != api.OK {
				t.Fatal(e)
			}
		}
	}
}

// TestP1605OpenedAgain: without a crash, too, what Open told lasts.
func TestP1605OpenedAgain(t *testing.T) {
	for n := range pow3(4) {
		d := newDisk(t, 20)
		x := opened(t, d, "log")
		x.do(t, "1 50", "x")
		if told, _ := x.reopen(t); len(told) != 2 {
			t.Fatal(short(told))
		}
		x.do(t, "1 50 1", "y")
		d.Crash(fatesOf(n, 4))
		x.reopen(t)
	}
}

// TestP1605InOpen: the power goes within Open's own sync.
func TestP1605InOpen(t *testing.T) {
	for n := range pow3(4) {
		d := newDisk(t, 20)
		x := opened(t, d, "log")
		x.do(t, "1 50 s 50 1 1", "x")
		d.Cut(0)
		if _, e := x.reopen(t); e != api.ErrPower {
			t.Fatal(e)
		}
		d.Crash(fatesOf(n, 4))
		if _, e := x.reopen(t); e != api.OK {
			t.Fatal(e)
		}
	}
}

// TestP1605Full: a disk that is full at some time, with all fates of what it has.
func TestP1605Full(t *testing.T) {
	for most := 1; most < 8; most++ {
		for n := range pow3(5) {
			d := newDisk(t, most)
			x := opened(t, d, "log")
			x.do(t, "1 s 100 50 1 0 1", "x")
			d.Crash(fatesOf(n, 5))
			x.reopen(t)
			x.do(t, "100 s 50 1 s 100 1", "y")
			d.Crash(fatesOf(n/3, 5))
			if _, e := x.reopen(t); e != api.OK {
				t.Fatal(e)
			}
		}
	}
}

// TestP1605Random: two journals on one disk, life after life, with the power going at
// any time, and a disk that is full now and then.
func TestP1605Random(t *testing.T) {
	most, powers, fulls, cuts := 0, 0, 0, 0
	for seed := range int64(400) {
		r := rand.New(rand.NewSource(1605 + seed))
		d := newDisk(t, 10+r.Intn(80))
		keepers := []*keeper{opened(t, d, "one"), opened(t, d, "two")}
		for life := range 30 {
			d.Cut(r.Intn(40) - 5)
			for i := range r.Intn(20) {
				x := keepers[r.Intn(2)]
				e := api.OK
				switch r.Intn(8) {
				case 0, 1:
					e = x.sync(t)
				case 2:
					_, e = x.reopen(t)
				default:
					n := r.Intn(1 + r.Intn(180))
					e = x.add(t, strings.Repeat(fmt.Sprint(seed, life, i, ";"), n)[:n])
				}
				if e == api.ErrFull {
					fulls++
				} else if e == api.ErrPower {
					powers++
					break
				}
			}
			fates := make([]int, r.Intn(90))
			always := r.Intn(5)
			for i := range fates {
				if fates[i] = r.Intn(3); always < 3 && r.Intn(4) > 0 {
					fates[i] = always
				}
			}
			d.Crash(fates)
			for _, x := range keepers {
				n := len(x.sure) + len(x.unsure)
				told, e := x.reopen(t)
				if e != api.OK {
					t.Fatal(e)
				}
				if most = max(most, len(told)); len(told) < n {
					cuts++
				}
			}
		}
	}
	if most < 30 || powers < 1000 || fulls < 1000 || cuts < 1000 {
		t.Error("too little happened: ", most, powers, fulls, cuts)
	}
}
