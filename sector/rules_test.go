package sector_test

import (
	"math"
	"reflect"
	"slices"
	"strings"
	"testing"

	"weighhouse/api"
	"weighhouse/sector"
)

func TestP1501NoDisk(t *testing.T) {
	var zero sector.Disk
	for what, d := range map[string]*sector.Disk{"nil": nil, "not made": {}, "a zero one": &zero, "new": new(sector.Disk)} {
		for range 2 {
			for _, f := range []string{"f", "", strings.Repeat("x", 17)} {
				for _, at := range []int{0, 1, -1, math.MaxInt} {
					wantErr(t, what+": Write", d.Write(f, at, "x"), api.ErrArg)
				}
				wantErr(t, what+": Sync", d.Sync(f), api.ErrArg)
				wantNoRead(t, what, d, f, api.ErrArg)
			}
			wantLooks(t, what, d, nil, 0, false)
			for _, k := range []int{0, 1, -1, math.MinInt} {
				d.Cut(k)
				d.Crash([]int{k, k})
				d.Crash(nil)
			}
		}
	}
}

// TestP1501Calls: a disk has the chapter's calls, and no others.
func TestP1501Calls(t *testing.T) {
	var names []string
	for m := range reflect.TypeFor[*sector.Disk]().Methods() {
		names = append(names, m.Name)
	}
	if want := []string{"Crash", "Cut", "Down", "Files", "Read", "Sync", "Used", "Write"}; !slices.Equal(names, want) {
		t.Error(names)
	}
}

func TestP1501NilIsEmpty(t *testing.T) {
	for _, fates := range [][]int{nil, {}, make([]int, 0, 8), []int{1, 1, 1}[:0]} {
		d := newDisk(t, 10)
		deeds(t, d, "write f 0 a", "sync f", "write f 0 b", "write f 1 c")
		d.Crash(fates)
		wantDisk(t, "no fates", d, "f: a")
	}
}

// TestP1501FatesHandedIn: they are neither changed nor kept, and the room behind
// them does not count.
func TestP1501FatesHandedIn(t *testing.T) {
	room := []int{-1, 301, 0, 1, 1, 1}
	d := newDisk(t, 10)
	deeds(t, d, "write f 0 a", "write f 1 b", "write f 2 c", "sync f", "write f 0 A", "write f 1 B", "write f 2 C", "write f 3 D")
	d.Crash(room[:2])
	if !slices.Equal(room, []int{-1, 301, 0, 1, 1, 1}) {
		t.Error("changed: ", room)
	}
	clear(room)
	wantDisk(t, "two fates", d, "f: ! B c")
	deeds(t, d, "write f 0 x", "crash")
	wantDisk(t, "the fates of an earlier crash are not left", d, "f: ! B c")
}

// TestP1501AnswersAreNew: writing all over an answer, and the room behind it,
// changes neither the disk nor another answer.
func TestP1501AnswersAreNew(t *testing.T) {
	d := newDisk(t, 20)
	look := func(what string, want ...string) {
		t.Helper()
		for _, f := range want {
			name, words, _ := strings.Cut(f, ":")
			l, _ := d.Read(name)
			other, _ := d.Read(name)
			for i := range l[:cap(l)] {
				l[:cap(l)][i] = sector.Sector{B: "spoilt", Bad: true}
			}
			if !slices.Equal(other, told(strings.Fields(words))) {
				t.Error(what, "another answer of Read", shown(other))
			}
		}
		l, other := d.Files(), d.Files()
		for i := range l[:cap(l)] {
			l[:cap(l)][i] = "spoilt"
		}
		if len(other) != len(want) || slices.Contains(other, "spoilt") {
			t.Error(what, "another answer of Files", other)
		}
		wantDisk(t, what, d, want...)
	}
	deeds(t, d, "write f 0 a", "write g 0 b", "write g 1 c", "write a 0 d", "write g 2 e")
	look("written", "a: d", "f: a", "g: b c e")
	deeds(t, d, "sync g", "sync f")
	look("synced", "a: d", "f: a", "g: b c e")
	deeds(t, d, "write g 3 g", "write f 0 A")
	look("both", "a: d", "f: A", "g: b c e g")
	deeds(t, d, "crash 0 2 1")
	look("crashed", "f: !", "g: b c e g")
	deeds(t, d, "write g 4 h", "write b 0 i", "crash 0 1")
	look("crashed again", "f: !", "g: b c e g h")
}

// TestP1501TextsHandedIn: what is written is not kept as a part of a greater text;
// it is the same, wherever it lies.
func TestP1501TextsHandedIn(t *testing.T) {
	b := []byte(strings.Repeat("name", 1000))
	d := newDisk(t, 20)
	for i := range 5 {
		wantErr(t, "Write", d.Write(string(b[:4]), i, string(b[i:i*16])), api.OK)
	}
	clear(b)
	l, e := d.Read("name")
	if e != api.OK || len(l) != 5 || l[4].B != full(strings.Repeat("name", 15)) || l[2].B != full(strings.Repeat("mena", 8)[:30]) {
		t.Error(shown(l), e)
	}
}

// TestP1501Errors: with an error nothing is changed, neither what is sure nor what
// is not.
func TestP1501Errors(t *testing.T) {
	wrong := []string{"write f -1 x = 1", "write f 4 x = 1", "write g 2 x = 1", "write new 1 x = 1", "write f 3 x = 7", "write new 0 x = 7",
		"write f 0 " + strings.Repeat("x", 65) + " = 1", "write a-name-too-long-- 0 x = 1", "sync new = 3"}
	for _, x := range []struct{ crash, f, g string }{
		{"crash", "f: a b", ""}, {"crash 1 1 1", "f: A b c", "g: d"}, {"crash 2 2 2", "f: ! b !", "g: !"}, {"crash 0 1", "f: a b c", ""},
	} {
		d := newDisk(t, 4)
		deeds(t, d, "write f 0 a", "write f 1 b", "sync f", "write f 0 A", "write f 2 c", "write g 0 d")
		for range 3 {
			deeds(t, d, wrong...)
			wantNoRead(t, "none", d, "new", api.ErrNone)
			wantDisk(t, "errors", d, "f: A b c", "g: d")
		}
		deeds(t, d, x.crash)
		want := slices.DeleteFunc([]string{x.f, x.g}, func(f string) bool { return f == "" })
		wantDisk(t, "errors, and "+x.crash, d, want...)
	}
}

// TestP1501Copies: a copy of a disk is the same disk.
func TestP1501Copies(t *testing.T) {
	d := newDisk(t, 4)
	c := *d
	deeds(t, &c, "write f 0 a", "cut 1")
	deeds(t, d, "write f 1 b", "sync f = 9")
	wantOff(t, "the copy", &c, 2, "f")
	deeds(t, &c, "crash 1 1")
	wantDisk(t, "the disk", d, "f: a b")
}
