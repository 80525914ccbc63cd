package sector_test

import (
	"fmt"
	"math"
	"slices"
	"strconv"
	"strings"
	"testing"

	"weighhouse/api"
	"weighhouse/sector"
)

func newDisk(t *testing.T, most int) *sector.Disk {
	t.Helper()
	d, e := sector.New(most)
	if d == nil || e != api.OK {
		t.Fatalf("New(%d): %v, error %d", most, d, e)
	}
	return d
}

func wantErr(t *testing.T, what string, got, want api.Errno) {
	t.Helper()
	if got != want {
		t.Errorf("%s: error %d, want %d", what, got, want)
	}
}

func number(t *testing.T, s string) int {
	t.Helper()
	n, err := strconv.Atoi(s)
	if err != nil {
		t.Fatal(err)
	}
	return n
}

func numbers(t *testing.T, words []string) []int {
	t.Helper()
	var l []int
	for _, w := range words {
		l = append(l, number(t, w))
	}
	return l
}

// full answers b with zeros behind it.
func full(b string) string {
	return b + strings.Repeat("\x00", 64-len(b))
}

// bytesOf answers what the word of a test stands for: "." for none.
func bytesOf(word string) string {
	if word == "." {
		return ""
	}
	return word
}

// do does one deed, such as "write f 0 text", "sync f", "cut 3", "crash 0 1 2".
func do(t *testing.T, d *sector.Disk, deed string) api.Errno {
	t.Helper()
	w := strings.Fields(deed)
	switch w[0] {
	case "write":
		return d.Write(w[1], number(t, w[2]), bytesOf(w[3]))
	case "sync":
		return d.Sync(w[1])
	case "cut":
		d.Cut(number(t, w[1]))
	case "crash":
		d.Crash(numbers(t, w[1:]))
	default:
		t.Fatal("no deed: ", deed)
	}
	return api.OK
}

// deeds does what is told, each with OK, or with the error behind its "=".
func deeds(t *testing.T, d *sector.Disk, list ...string) {
	t.Helper()
	for _, x := range list {
		deed, want, told := strings.Cut(x, "=")
		e := api.OK
		if told {
			e = api.Errno(number(t, strings.TrimSpace(want)))
		}
		wantErr(t, deed, do(t, d, deed), e)
	}
}

// told answers the sectors that words stand for: "!" for a Bad one, "." for zeros.
func told(words []string) []sector.Sector {
	var l []sector.Sector
	for _, w := range words {
		if w == "!" {
			l = append(l, sector.Sector{Bad: true})
		} else {
			l = append(l, sector.Sector{B: full(bytesOf(w))})
		}
	}
	return l
}

// shown answers sectors for a look at them, with the zeros at their end left out.
func shown(l []sector.Sector) string {
	var words []string
	for _, x := range l {
		w := strconv.Quote(strings.TrimRight(x.B, "\x00"))
		if x.Bad || len(x.B) != 64 {
			w = fmt.Sprintf("(%s, of %d bytes, Bad %v)", w, len(x.B), x.Bad)
		}
		words = append(words, w)
	}
	return strings.Join(words, " ")
}

func wantRead(t *testing.T, what string, d *sector.Disk, file string, want []sector.Sector) {
	t.Helper()
	l, e := d.Read(file)
	if e != api.OK || !slices.Equal(l, want) {
		t.Errorf("%s: Read of %s: %s, error %d, want %s", what, file, shown(l), e, shown(want))
	}
}

func wantNoRead(t *testing.T, what string, d *sector.Disk, file string, want api.Errno) {
	t.Helper()
	l, e := d.Read(file)
	if e != want || len(l) != 0 {
		t.Errorf("%s: Read of %q: %s, error %d, want error %d", what, file, shown(l), e, want)
	}
}

// wantLooks asks what can be asked with the power off, too.
func wantLooks(t *testing.T, what string, d *sector.Disk, files []string, used int, down bool) {
	t.Helper()
	if l := d.Files(); !slices.Equal(l, files) {
		t.Errorf("%s: Files: %q, want %q", what, l, files)
	}
	if n := d.Used(); n != used {
		t.Errorf("%s: Used: %d, want %d", what, n, used)
	}
	if d.Down() != down {
		t.Errorf("%s: Down: %v", what, d.Down())
	}
}

// wantDisk asks whether the power is on, and the files are just these, such as
// "f: a . !".
func wantDisk(t *testing.T, what string, d *sector.Disk, files ...string) {
	t.Helper()
	var names []string
	used := 0
	for _, f := range files {
		name, words, _ := strings.Cut(f, ":")
		l := told(strings.Fields(words))
		names, used = append(names, name), used+len(l)
		wantRead(t, what, d, name, l)
	}
	wantLooks(t, what, d, names, used, false)
}

func TestP1502New(t *testing.T) {
	for _, most := range []int{1, 2, 64, 65535, 65536} {
		d := newDisk(t, most)
		wantDisk(t, "a new disk", d)
		wantNoRead(t, "a new disk", d, "f", api.ErrNone)
		wantErr(t, "Sync", d.Sync("f"), api.ErrNone)
	}
	for _, most := range []int{0, -1, 65537, math.MaxInt, math.MinInt} {
		if d, e := sector.New(most); d != nil || e != api.ErrArg {
			t.Errorf("New(%d): %v, error %d", most, d, e)
		}
	}
}

func TestP1502Files(t *testing.T) {
	d := newDisk(t, 100)
	deeds(t, d, "write b 0 b0")
	wantDisk(t, "one file", d, "b: b0")
	deeds(t, d, "write a 0 a0", "write c 0 c0", "write b 1 b1", "write B 0 B0", "write ab 0 x", "write a 1 a1", "write a 2 a2")
	wantDisk(t, "files", d, "B: B0", "a: a0 a1 a2", "ab: x", "b: b0 b1", "c: c0")
	deeds(t, d, "write a 1 new", "write b 0 again", "write b 0 last")
	wantDisk(t, "written again", d, "B: B0", "a: a0 new a2", "ab: x", "b: last b1", "c: c0")
	deeds(t, d, "sync a", "sync c", "sync c")
	wantDisk(t, "synced", d, "B: B0", "a: a0 new a2", "ab: x", "b: last b1", "c: c0")
	deeds(t, d, "write a 3 a3", "write a 0 .")
	wantDisk(t, "written on", d, "B: B0", "a: . new a2 a3", "ab: x", "b: last b1", "c: c0")
	for _, none := range []string{"d", "A", "aa", "abc", "", "b ", "b\x00", strings.Repeat("b", 17), strings.Repeat("b", 1<<20)} {
		wantNoRead(t, "none", d, none, api.ErrNone)
		wantErr(t, "Sync of "+none[:min(9, len(none))], d.Sync(none), api.ErrNone)
	}
	wantDisk(t, "as it was", d, "B: B0", "a: . new a2 a3", "ab: x", "b: last b1", "c: c0")
}

func TestP1502Names(t *testing.T) {
	d := newDisk(t, 65536)
	var names []string
	for _, good := range []string{"a", "0123456789abcdef", "!", "~", "!~!~!~!~!~!~!~!~", "~!", "a/b", "\"", "\\"} {
		wantErr(t, "Write to "+good, d.Write(good, 0, "of "+good), api.OK)
		wantRead(t, "a name", d, good, told([]string{"of " + good}))
		wantErr(t, "Sync of "+good, d.Sync(good), api.OK)
		names = append(names, good)
	}
	for c := range 256 {
		name := "n" + string([]byte{byte(c)}) + "e"
		want := api.ErrArg
		if c >= 33 && c <= 126 {
			want = api.OK
			names = append(names, name)
		}
		wantErr(t, strconv.Quote(name), d.Write(name, 0, ""), want)
	}
	slices.Sort(names)
	wantLooks(t, "names", d, names, len(names), false)
	for _, bad := range []string{"", "0123456789abcdefg", " ", "\x7f", "a ", " a", "\x7fa", "a\x7f", "a\x1f", "\x00", "a\n", "é", "\xff", strings.Repeat("a", 17), strings.Repeat("a", 1<<20)} {
		wantErr(t, strconv.Quote(bad[:min(20, len(bad))]), d.Write(bad, 0, ""), api.ErrArg)
		wantErr(t, "Sync", d.Sync(bad), api.ErrNone)
		wantNoRead(t, "a name that may not be", d, bad, api.ErrNone)
	}
	wantLooks(t, "names", d, names, len(names), false)
}

func TestP1502Places(t *testing.T) {
	d := newDisk(t, 10)
	deeds(t, d, "write f 1 x = 1", "write f -1 x = 1", "write f 2 x = 1")
	wantDisk(t, "no file yet", d)
	deeds(t, d, "write f 0 a")
	for _, at := range []int{-1, 2, 3, 9, 10, 64, math.MaxInt, math.MinInt, 1 << 32} {
		wantErr(t, strconv.Itoa(at), d.Write("f", at, "x"), api.ErrArg)
	}
	wantDisk(t, "wrong places", d, "f: a")
	deeds(t, d, "write f 1 b", "write f 2 c", "write f 3 d", "write f 5 x = 1", "write f 4 e", "write f 0 A", "write f 4 E", "write f 2 C")
	wantDisk(t, "places", d, "f: A b C d E")
	deeds(t, d, "write g 4 x = 1", "write g 1 x = 1", "write g 0 g")
	wantDisk(t, "another file's places", d, "f: A b C d E", "g: g")
}

func TestP1502Bytes(t *testing.T) {
	d := newDisk(t, 200)
	var all []byte
	for c := range 256 {
		all = append(all, byte(c))
	}
	var want []sector.Sector
	for n := range 65 {
		b := string(all[n*2 : n*3])
		wantErr(t, "Write", d.Write("f", n, b), api.OK)
		want = append(want, sector.Sector{B: full(b)})
	}
	want = append(want, sector.Sector{B: string(all[192:])})
	wantErr(t, "Write", d.Write("f", 65, string(all[192:])), api.OK)
	wantRead(t, "bytes", d, "f", want)
	for _, n := range []int{65, 66, 128, 1 << 24} {
		wantErr(t, "too much, new", d.Write("f", 66, strings.Repeat("x", n)), api.ErrArg)
		wantErr(t, "too much, again", d.Write("f", 0, strings.Repeat("x", n)), api.ErrArg)
		wantErr(t, "too much, a new file", d.Write("g", 0, strings.Repeat("\x00", n)), api.ErrArg)
	}
	wantRead(t, "bytes", d, "f", want)
	wantLooks(t, "bytes", d, []string{"f"}, 66, false)
	// Nothing is left of what a longer one had behind the shorter one that is
	// written over it.
	deeds(t, d, "write g 0 "+strings.Repeat("x", 64), "write g 0 y", "sync g", "write g 0 longer", "write g 0 .")
	wantRead(t, "shorter ones", d, "g", []sector.Sector{{B: strings.Repeat("\x00", 64)}})
	deeds(t, d, "crash 0")
	wantRead(t, "shorter ones", d, "g", told([]string{"y"}))
}

func TestP1502FullOfSectors(t *testing.T) {
	d := newDisk(t, 1)
	deeds(t, d, "write f 0 a", "write f 1 x = 7", "write g 0 x = 7", "write f 0 b", "sync f", "write f 0 c", "write f 1 x = 7")
	wantDisk(t, "one sector", d, "f: c")
	d = newDisk(t, 3)
	deeds(t, d, "write f 0 a", "write g 0 b", "write f 1 c", "write f 2 x = 7", "write g 1 x = 7", "write h 0 x = 7",
		"write f 1 C", "write g 0 B", "write f 0 A", "sync f", "write f 2 x = 7", "write f 1 D")
	wantDisk(t, "three sectors", d, "f: A D", "g: B")
	// ErrArg is told ahead of ErrFull.
	deeds(t, d, "write f 3 x = 1", "write h 1 x = 1", "write f -1 x = 1", "write a-name-too-long-- 0 x = 1")
	wantErr(t, "too much", d.Write("f", 2, strings.Repeat("x", 65)), api.ErrArg)
	// What a crash took away may be written anew.
	deeds(t, d, "crash 0", "write f 2 x", "write g 0 x = 7")
	wantDisk(t, "behind a crash", d, "f: A C x")
}

func TestP1502FullAtTheMost(t *testing.T) {
	d := newDisk(t, 65536)
	for i := range 65536 {
		f := strconv.Itoa(i % 200)
		if e := d.Write(f, i/200, f); e != api.OK {
			t.Fatal(i, e)
		}
		if i%10007 == 0 && d.Used() != i+1 {
			t.Fatal(i, d.Used())
		}
	}
	if d.Used() != 65536 || len(d.Files()) != 200 {
		t.Error(d.Used(), len(d.Files()))
	}
	deeds(t, d, "write 199 327 x = 7", "write new 0 x = 7", "write 199 326 again", "write 0 328 x = 7", "write 0 329 x = 1")
	l, e := d.Read("199")
	if e != api.OK || len(l) != 327 || l[325].B != full("199") || l[326].B != full("again") {
		t.Error(len(l), e)
	}
}

func TestP1502FullOfFiles(t *testing.T) {
	d := newDisk(t, 1000)
	for i := range api.MaxFiles {
		deeds(t, d, "write f"+strconv.Itoa(i)+" 0 x")
	}
	if len(d.Files()) != 256 || !slices.IsSorted(d.Files()) || d.Used() != 256 {
		t.Error(d.Files())
	}
	deeds(t, d, "write new 0 x = 7", "write a 0 x = 7", "write f256 0 x = 7", "write f255 1 y", "write f0 1 y", "write f0 0 z", "sync new = 3")
	if len(d.Files()) != 256 || d.Used() != 258 {
		t.Error(d.Files(), d.Used())
	}
	wantRead(t, "an elder file", d, "f0", told([]string{"z", "y"}))
	// ErrArg is told ahead of ErrFull.
	deeds(t, d, "write new 1 x = 1", "write new -1 x = 1", "write a-name-too-long-- 0 x = 1", "sync f7", "crash")
	wantDisk(t, "behind a crash", d, "f7: x")
	deeds(t, d, "write new 0 x")
	wantDisk(t, "there is room again", d, "f7: x", "new: x")
}

func TestP1502TwoDisks(t *testing.T) {
	a, b := newDisk(t, 4), newDisk(t, 2)
	deeds(t, a, "write f 0 a", "write g 0 b")
	wantDisk(t, "the other one", b)
	deeds(t, b, "write f 0 B", "write f 1 C", "sync f", "write f 2 x = 7")
	deeds(t, a, "write f 1 c", "write f 2 d", "write g 1 x = 7")
	wantDisk(t, "one", a, "f: a c d", "g: b")
	wantDisk(t, "other", b, "f: B C")
	deeds(t, a, "cut 0", "sync f = 9")
	wantLooks(t, "one", a, []string{"f", "g"}, 4, true)
	deeds(t, b, "write f 1 D", "sync f")
	wantDisk(t, "other", b, "f: B D")
	deeds(t, a, "crash 0 1 2 0")
	deeds(t, b, "write f 0 E", "write f 1 F")
	wantDisk(t, "one", a, "f: . c !")
	wantDisk(t, "other", b, "f: E F")
	deeds(t, b, "cut 1", "crash 0 1")
	deeds(t, a, "write f 2 x", "write f 2 y", "write g 0 z")
	wantDisk(t, "one", a, "f: . c y", "g: z")
	wantDisk(t, "other", b, "f: B F")
}
