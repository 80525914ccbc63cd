package sector_test

import (
	"fmt"
	"math"
	"strings"
	"testing"

	"weighhouse/api"
	"weighhouse/sector"
)

// wantOff asks whether the power is off, and all that this stands against.
func wantOff(t *testing.T, what string, d *sector.Disk, used int, files ...string) {
	t.Helper()
	for range 2 {
		wantLooks(t, what, d, files, used, true)
		for _, f := range append(files, "none", "", strings.Repeat("x", 17)) {
			wantErr(t, what+": Write", d.Write(f, 0, "x"), api.ErrPower)
			wantErr(t, what+": Write to a wrong place", d.Write(f, -1, "x"), api.ErrPower)
			wantErr(t, what+": Write of too much", d.Write(f, 0, strings.Repeat("x", 65)), api.ErrPower)
			wantErr(t, what+": Sync", d.Sync(f), api.ErrPower)
			wantNoRead(t, what, d, f, api.ErrPower)
		}
	}
}

func TestP1502Fuse(t *testing.T) {
	for k := range 6 {
		d := newDisk(t, 10)
		deeds(t, d, "write f 0 a", "sync f", fmt.Sprint("cut ", k))
		wantDisk(t, "a fuse is no crash", d, "f: a")
		for i := range k {
			if i%2 == 0 {
				deeds(t, d, fmt.Sprint("write f ", i/2+1, " x"))
			} else {
				deeds(t, d, "sync f")
			}
			if d.Down() {
				t.Error("too early", k, i)
			}
		}
		if k%2 == 0 {
			deeds(t, d, "write f 0 never = 9")
		} else {
			deeds(t, d, "sync f = 9")
		}
		wantOff(t, "off", d, 1+(k+1)/2, "f")
		// A sector of which the Sync was not done is not sure, and the Write that
		// was not done is not to be seen.
		deeds(t, d, "crash")
		wantDisk(t, "on", d, "f: a"+strings.Repeat(" x", k/2))
	}
}

// TestP1502FuseWrites: at count 0 a Write makes neither sector nor file, and what
// it would have written is not there behind the crash.
func TestP1502FuseWrites(t *testing.T) {
	for _, w := range []string{"write f 0 new", "write f 1 new", "write g 0 new", "write a 0 new"} {
		d := newDisk(t, 2)
		deeds(t, d, "write f 0 a", "sync f", "cut 0", w+" = 9")
		wantOff(t, w, d, 1, "f")
		deeds(t, d, "crash 1 1 1")
		wantDisk(t, w, d, "f: a")
	}
	d := newDisk(t, 2)
	deeds(t, d, "cut 0", "write f 0 a = 9")
	wantOff(t, "an empty disk", d, 0)
	deeds(t, d, "crash 1")
	wantDisk(t, "an empty disk", d)
}

func TestP1502FuseSync(t *testing.T) {
	d := newDisk(t, 4)
	deeds(t, d, "write f 0 a", "sync f", "write f 0 b", "write f 1 c", "cut 0", "sync f = 9")
	wantOff(t, "not synced", d, 2, "f")
	deeds(t, d, "crash 0 2")
	wantDisk(t, "not synced", d, "f: a !")
}

// TestP1502FuseLeft: what ErrArg or ErrFull stands against is no operation.
func TestP1502FuseLeft(t *testing.T) {
	none := []string{"write f -1 x = 1", "write f 3 x = 1", "write new 1 x = 1", "write a-name-too-long-- 0 x = 1", "write f 2 x = 7", "write new 0 x = 7",
		"write f 0 " + strings.Repeat("x", 65) + " = 1"}
	for k := range 4 {
		d := newDisk(t, 3)
		deeds(t, d, "write f 0 a", "write f 1 b", "write g 0 c", "sync f", "sync g", fmt.Sprint("cut ", k))
		for i := range k {
			deeds(t, d, none...)
			wantNoRead(t, "none", d, "none", api.ErrNone)
			wantDisk(t, "no operation", d, "f: a b", "g: c")
			deeds(t, d, []string{"sync g", "write g 0 c"}[i%2])
		}
		deeds(t, d, none...)
		wantNoRead(t, "none", d, "none", api.ErrNone)
		wantDisk(t, "count 0", d, "f: a b", "g: c")
		deeds(t, d, "write g 0 never = 9")
		wantOff(t, "off", d, 3, "f", "g")
	}
}

// TestP1502FuseFiles: where MaxFiles are a new file is no operation.
func TestP1502FuseFiles(t *testing.T) {
	d := newDisk(t, 1000)
	for i := range api.MaxFiles {
		deeds(t, d, fmt.Sprint("write f", i, " 0 x"))
	}
	deeds(t, d, "cut 1", "write new 0 x = 7", "write new 0 x = 7", "write f0 1 x", "write new 0 x = 7")
	wantLooks(t, "count 0", d, d.Files(), 257, false)
	deeds(t, d, "write f0 2 x = 9", "write new 0 x = 9")
	wantLooks(t, "off", d, d.Files(), 257, true)
}

// TestP1502FuseNone: a Sync of a file that is not there is an operation: ErrNone
// is not among what stands against one.
func TestP1502FuseNone(t *testing.T) {
	d := newDisk(t, 3)
	deeds(t, d, "write f 0 a", "cut 2", "sync none = 3", "sync a-name-too-long-- = 3")
	wantDisk(t, "count 0", d, "f: a")
	deeds(t, d, "sync none = 9")
	wantOff(t, "off", d, 1, "f")
	deeds(t, d, "crash 1", "sync none = 3", "sync none = 3")
	wantDisk(t, "no fuse", d, "f: a")
	deeds(t, d, "cut 0", "sync none = 9")
	wantOff(t, "off", d, 1, "f")
}

// TestP1502FuseLooks: looks take nothing of the fuse.
func TestP1502FuseLooks(t *testing.T) {
	d := newDisk(t, 3)
	deeds(t, d, "write f 0 a", "cut 1")
	for range 5 {
		wantDisk(t, "looks", d, "f: a")
		wantNoRead(t, "looks", d, "none", api.ErrNone)
	}
	deeds(t, d, "write f 0 b")
	for range 5 {
		wantDisk(t, "looks", d, "f: b")
	}
	deeds(t, d, "write f 0 c = 9")
}

func TestP1502Cut(t *testing.T) {
	for _, k := range []int{-1, -2, math.MinInt, 1000, math.MaxInt} {
		d := newDisk(t, 3)
		for _, before := range []int{-1, 0, 1, math.MaxInt} {
			d.Cut(before)
			d.Cut(k)
			for range 20 {
				deeds(t, d, "write f 0 a", "sync f")
			}
			wantDisk(t, "no end of the fuse yet", d, "f: a")
		}
	}
	// The last Cut holds.
	d := newDisk(t, 3)
	deeds(t, d, "cut 5", "write f 0 a", "cut 1", "write f 1 b", "cut 2", "write f 2 c", "sync f", "cut -1", "sync f", "cut 0", "sync f = 9")
	wantOff(t, "off", d, 3, "f")
	// No Cut brings the power back.
	for _, k := range []int{-1, 0, 1, 5} {
		d.Cut(k)
		wantOff(t, "still off", d, 3, "f")
	}
}

func TestP1503FuseIsGone(t *testing.T) {
	for _, k := range []int{0, 1, 2} {
		d := newDisk(t, 3)
		deeds(t, d, "write f 0 a", fmt.Sprint("cut ", k), "crash 1")
		for range 5 {
			deeds(t, d, "write f 0 b", "sync f")
		}
		wantDisk(t, "no fuse", d, "f: b")
		// Nor is one that was lit while the power was off.
		deeds(t, d, "cut 0", "sync f = 9", fmt.Sprint("cut ", k), "crash")
		for range 5 {
			deeds(t, d, "write f 0 c", "sync f")
		}
		wantDisk(t, "no fuse", d, "f: c")
	}
}
