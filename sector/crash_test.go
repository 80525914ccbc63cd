package sector_test

import (
	"fmt"
	"math"
	"slices"
	"strconv"
	"testing"

	"weighhouse/api"
	"weighhouse/sector"
)

func TestP1503Example(t *testing.T) {
	d := newDisk(t, 10)
	deeds(t, d, "write f 0 a", "write f 1 b", "crash 0 1")
	wantDisk(t, "the example", d, "f: . b")
}

// TestP1503Fates: one elder sector, written again, and each fate that it may have.
func TestP1503Fates(t *testing.T) {
	for fate, want := range map[int]string{
		0: "old", 1: "new", 2: "!", 3: "old", 4: "new", 5: "!", 299: "!", 300: "old", 301: "new",
		-1: "!", -2: "new", -3: "old", -4: "!", -5: "new", -6: "old",
		math.MaxInt: "new", math.MaxInt - 1: "old", math.MinInt: "new", math.MinInt + 1: "!", math.MinInt + 2: "old",
	} {
		d := newDisk(t, 1)
		deeds(t, d, "write f 0 old", "sync f", "write f 0 new")
		d.Crash([]int{fate})
		wantDisk(t, strconv.Itoa(fate), d, "f: "+want)
	}
}

// TestP1503Rows: what becomes of disks that are told by what is done on them.
func TestP1503Rows(t *testing.T) {
	one := []string{"write f 0 a", "write f 1 b", "write f 2 c"}
	again := []string{"write f 0 a", "write f 1 b", "write f 2 c", "sync f", "write f 0 A", "write f 2 C"}
	files := []string{"write g 0 a", "write f 0 b", "write g 1 c", "write h 0 d", "write f 1 e"}
	for _, x := range []struct {
		did   []string
		crash string
		want  []string
	}{
		{nil, "crash", nil},
		{nil, "crash 1 2 1", nil},
		// New sectors: those at the end that were lost are gone, others are zeros.
		{one, "crash", nil},
		{one, "crash 0 0 0", nil},
		{one, "crash 1", []string{"f: a"}},
		{one, "crash 0 1", []string{"f: . b"}},
		{one, "crash 0 0 1", []string{"f: . . c"}},
		{one, "crash 1 0 1", []string{"f: a . c"}},
		{one, "crash 1 1", []string{"f: a b"}},
		{one, "crash 1 1 1", []string{"f: a b c"}},
		{one, "crash 2", []string{"f: !"}},
		{one, "crash 0 2", []string{"f: . !"}},
		{one, "crash 0 0 2", []string{"f: . . !"}},
		{one, "crash 2 0 1", []string{"f: ! . c"}},
		{one, "crash 2 1 2", []string{"f: ! b !"}},
		{one, "crash 2 2 2 2 2", []string{"f: ! ! !"}},
		{one, "crash 1 1 1 0 0 2", []string{"f: a b c"}},
		{one, "crash 3 -2 -1", []string{"f: . b !"}},
		// Elder ones: only those that were written since take a fate.
		{again, "crash", []string{"f: a b c"}},
		{again, "crash 0 1", []string{"f: a b C"}},
		{again, "crash 1 0", []string{"f: A b c"}},
		{again, "crash 1", []string{"f: A b c"}},
		{again, "crash 1 1 2", []string{"f: A b C"}},
		{again, "crash 2 1", []string{"f: ! b C"}},
		{again, "crash 0 2", []string{"f: a b !"}},
		{again, "crash 2 2 2", []string{"f: ! b !"}},
		// File by file, rising, whichever was written first.
		{files, "crash 1", []string{"f: b"}},
		{files, "crash 0 0 1", []string{"g: a"}},
		{files, "crash 0 1 0 1 0", []string{"f: . e", "g: . c"}},
		{files, "crash 1 2 0 0 1", []string{"f: b !", "h: d"}},
		{files, "crash 2 1 1 2 0", []string{"f: ! e", "g: a !"}},
		{files, "crash 1 1 1 1 1", []string{"f: b e", "g: a c", "h: d"}},
		{files, "crash 0 0 0 0 2", []string{"h: !"}},
		{files, "crash 0 0 0 0 0 1 1 1", nil},
	} {
		d := newDisk(t, 10)
		deeds(t, d, x.did...)
		deeds(t, d, x.crash)
		wantDisk(t, fmt.Sprint(x.did, x.crash), d, x.want...)
		// Behind it nothing is unsure: another crash changes nothing more.
		for _, again := range []string{"crash 2 2 2 2 2 2", "crash", "crash 1 1 1"} {
			deeds(t, d, again)
			wantDisk(t, fmt.Sprint(x.did, x.crash, again), d, x.want...)
		}
	}
}

// TestP1503WrittenAlike: a sector that is written again as it was takes a fate, too.
func TestP1503WrittenAlike(t *testing.T) {
	for fate, want := range []string{"f: a b", "f: a b", "f: ! b"} {
		d := newDisk(t, 10)
		deeds(t, d, "write f 0 a", "write f 1 x", "sync f", "write f 0 a", "write f 1 b", fmt.Sprint("crash ", fate, " 1"))
		wantDisk(t, "as it was", d, want)
	}
	d := newDisk(t, 10)
	deeds(t, d, "write f 0 .", "write f 1 .", "write f 2 .", "crash 1 0 0")
	wantDisk(t, "zeros that were written are no nothing", d, "f: .")
	deeds(t, d, "write f 1 .", "write f 2 b", "sync f", "write f 2 .", "crash 0")
	wantDisk(t, "zeros that were sure", d, "f: . . b")
	deeds(t, d, "write f 2 .", "crash 1")
	wantDisk(t, "zeros at the end", d, "f: . . .")
	deeds(t, d, "write f 2 x", "crash 0")
	wantDisk(t, "zeros at the end that were sure", d, "f: . . .")
}

// TestP1503WrittenOften: of a sector that was written several times since the last
// Sync there is one fate, and the last one that was written, or what was sure.
func TestP1503WrittenOften(t *testing.T) {
	for fate, want := range []string{"f: s y", "f: c y", "f: ! y"} {
		d := newDisk(t, 10)
		deeds(t, d, "write f 0 r", "write f 0 s", "sync f", "write f 0 a", "write f 1 x", "write f 0 b", "write f 1 y", "write f 0 c", fmt.Sprint("crash ", fate, " 1"))
		wantDisk(t, "the last one", d, want)
	}
}

// TestP1503SyncOfOne: one file's Sync leaves the others' sectors as unsure as they
// were.
func TestP1503SyncOfOne(t *testing.T) {
	did := []string{"write f 0 a", "write g 0 b", "write h 0 c", "sync g", "write f 1 d", "write g 1 e", "write h 1 g", "sync f", "write f 0 A", "write h 0 C"}
	for crash, want := range map[string][]string{
		"crash":           {"f: a d", "g: b"},
		"crash 1 1 1 1":   {"f: A d", "g: b e", "h: C g"},
		"crash 2 2 2 2":   {"f: ! d", "g: b !", "h: ! !"},
		"crash 0 1 0 2":   {"f: a d", "g: b e", "h: . !"},
		"crash 1 0 2 0 1": {"f: A d", "g: b", "h: !"},
	} {
		d := newDisk(t, 10)
		deeds(t, d, did...)
		wantDisk(t, "ahead of it", d, "f: A d", "g: b e", "h: C g")
		deeds(t, d, crash)
		wantDisk(t, crash, d, want...)
	}
}

// TestP1503Torn: a torn one can't be read till it is written again, and is what
// was sure, if that is lost.
func TestP1503Torn(t *testing.T) {
	d := newDisk(t, 3)
	deeds(t, d, "write f 0 a", "write f 1 b", "sync f", "write f 0 A", "crash 2")
	wantDisk(t, "torn", d, "f: ! b")
	deeds(t, d, "sync f", "write f 2 c")
	wantDisk(t, "torn, and others written", d, "f: ! b c")
	deeds(t, d, "write f 0 new")
	wantDisk(t, "written again", d, "f: new b c")
	deeds(t, d, "crash 0 1")
	wantDisk(t, "written again, and lost", d, "f: ! b c")
	deeds(t, d, "write f 0 new", "crash 1")
	wantDisk(t, "written again, and kept", d, "f: new b c")
	deeds(t, d, "write f 0 x", "crash 2", "write f 0 y", "sync f", "write f 0 z", "crash 0")
	wantDisk(t, "written again, and synced", d, "f: y b c")
	deeds(t, d, "write f 0 x", "write f 2 x", "crash 2 2", "write f 3 x = 7", "write f 2 y", "crash 2", "write f 0 x", "crash 1")
	wantDisk(t, "a torn one takes its room", d, "f: x b !")
	e := newDisk(t, 3)
	deeds(t, e, "write f 0 a", "write f 1 b", "crash 1 2", "write f 1 c", "crash 0")
	wantDisk(t, "one at the end that is surely torn stays there", e, "f: a !")
}

// TestP1503Gone: what is gone may be written anew, from where the file ends now.
func TestP1503Gone(t *testing.T) {
	d := newDisk(t, 5)
	deeds(t, d, "write f 0 a", "sync f", "write f 1 b", "write f 2 c", "write g 0 x", "write g 1 y", "write h 0 z = 7", "crash 1")
	wantDisk(t, "gone", d, "f: a b")
	wantNoRead(t, "gone", d, "g", api.ErrNone)
	deeds(t, d, "sync g = 3", "write g 1 x = 1", "write f 3 x = 1", "write f 2 C", "write g 0 X", "write e 0 E")
	wantDisk(t, "anew", d, "e: E", "f: a b C", "g: X")
	deeds(t, d, "crash")
	wantDisk(t, "gone again", d, "f: a b")
	deeds(t, d, "write f 0 A", "write f 1 B", "write f 2 C", "crash")
	wantDisk(t, "elder ones are not gone", d, "f: a b")
	// Zeros that a crash left are sure: they don't go.
	deeds(t, d, "write f 2 x", "write f 3 y", "crash 0 1", "write f 2 z", "write f 3 z", "crash")
	wantDisk(t, "zeros", d, "f: a b . y")
}

// TestP1503PowerIsOn: a crash brings the power back, whether it was off or not.
func TestP1503PowerIsOn(t *testing.T) {
	d := newDisk(t, 5)
	deeds(t, d, "write f 0 a", "write g 0 b", "cut 1", "sync f", "write f 0 A = 9")
	wantOff(t, "off", d, 2, "f", "g")
	deeds(t, d, "crash 2")
	wantDisk(t, "on", d, "f: a", "g: !")
	deeds(t, d, "write g 0 B", "sync g", "crash")
	wantDisk(t, "on, and on", d, "f: a", "g: B")
	deeds(t, d, "cut 2", "write f 0 x", "write g 0 y", "write f 0 z = 9", "crash 1 0")
	wantDisk(t, "on again", d, "f: x", "g: B")
}

// TestP1503Many: a fate each for very many sectors, in their order.
func TestP1503Many(t *testing.T) {
	const n = 65536
	d := newDisk(t, n)
	var fates []int
	for i := range n {
		if e := d.Write([]string{"b", "a"}[i*2/n], i%(n/2), strconv.Itoa(i)); e != api.OK {
			t.Fatal(i, e)
		}
		fates = append(fates, i*i%7)
	}
	d.Crash(fates)
	for k, f := range []string{"a", "b"} {
		l, e := d.Read(f)
		var want []sector.Sector
		for i := range n / 2 {
			text := strconv.Itoa((1-k)*n/2 + i)
			want = append(want, []sector.Sector{{B: full("")}, {B: full(text)}, {Bad: true}}[fates[k*n/2+i]%3])
		}
		for fates[k*n/2+len(want)-1]%3 == 0 {
			want = want[:len(want)-1]
		}
		if e != api.OK || !slices.Equal(l, want) {
			t.Error(f, len(l), len(want), e)
		}
	}
}
