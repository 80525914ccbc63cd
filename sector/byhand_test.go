package sector_test

import (
	"fmt"
	"maps"
	"math/rand"
	"slices"
	"strings"
	"testing"

	"weighhouse/api"
	"weighhouse/sector"
)

// cell is a sector by the chapter's words: what it holds, what was sure, if
// anything was, and whether it was written since.
type cell struct {
	now, sure   sector.Sector
	some, wrote bool
}

// plain is a disk by the chapter's words.
type plain struct {
	most, fuse int
	down       bool
	files      map[string][]cell
}

func newPlain(most int) *plain {
	return &plain{most: most, fuse: -1, files: map[string][]cell{}}
}

func (p *plain) names() []string {
	return slices.Sorted(maps.Keys(p.files))
}

func (p *plain) used() int {
	n := 0
	for _, l := range p.files {
		n += len(l)
	}
	return n
}

// operate answers whether the operation is done.
func (p *plain) operate() bool {
	if p.fuse == 0 {
		p.down = true
		return false
	}
	p.fuse = max(p.fuse-1, -1)
	return true
}

func (p *plain) write(file string, at int, b string) api.Errno {
	if p.down {
		return api.ErrPower
	}
	strange := func(r rune) bool { return r < 33 || r > 126 }
	l, there := p.files[file]
	if file == "" || len(file) > 16 || strings.ContainsFunc(file, strange) || at < 0 || at > len(l) || len(b) > 64 {
		return api.ErrArg
	}
	if at == len(l) && p.used() == p.most || !there && len(p.files) == 256 {
		return api.ErrFull
	}
	if !p.operate() {
		return api.ErrPower
	}
	if at == len(l) {
		l = append(l, cell{})
	}
	l[at].now, l[at].wrote = sector.Sector{B: full(b)}, true
	p.files[file] = l
	return api.OK
}

func (p *plain) sync(file string) api.Errno {
	if p.down || !p.operate() {
		return api.ErrPower
	}
	l, there := p.files[file]
	if !there {
		return api.ErrNone
	}
	for i := range l {
		l[i] = cell{now: l[i].now, sure: l[i].now, some: true}
	}
	return api.OK
}

func (p *plain) read(file string) ([]sector.Sector, api.Errno) {
	if p.down {
		return nil, api.ErrPower
	}
	if _, there := p.files[file]; !there {
		return nil, api.ErrNone
	}
	return p.held(file), api.OK
}

// held answers the file's sectors, whether the power is on or not.
func (p *plain) held(file string) []sector.Sector {
	var out []sector.Sector
	for _, c := range p.files[file] {
		out = append(out, c.now)
	}
	return out
}

func (p *plain) crash(fates []int) {
	for _, name := range p.names() {
		l, end := p.files[name], 0
		for i, c := range l {
			gone := false
			if c.wrote {
				fate := 0
				if len(fates) > 0 {
					fate, fates = fates[0], fates[1:]
				}
				switch fate % 3 {
				case 0:
					l[i].now, gone = c.sure, !c.some
				case 2, -1:
					l[i].now = sector.Sector{Bad: true}
				}
			}
			if gone {
				l[i].now = sector.Sector{B: full("")}
			} else {
				end = i + 1
			}
			l[i] = cell{now: l[i].now, sure: l[i].now, some: true}
		}
		if p.files[name] = l[:end]; end == 0 {
			delete(p.files, name)
		}
	}
	p.down, p.fuse = false, -1
}

// pair is a disk and the plain one, on which the same is done.
type pair struct {
	*sector.Disk
	*plain
}

func newPair(t *testing.T, most int) pair {
	t.Helper()
	return pair{newDisk(t, most), newPlain(most)}
}

func (x pair) wantAlike(t *testing.T, what string) {
	t.Helper()
	wantLooks(t, what, x.Disk, x.names(), x.used(), x.down)
	for _, f := range append(x.names(), "none") {
		x.wantReadAlike(t, what, f)
	}
}

func (x pair) wantReadAlike(t *testing.T, what, file string) {
	t.Helper()
	l, e := x.Read(file)
	want, none := x.read(file)
	if e != none || !slices.Equal(l, want) {
		t.Errorf("%s: Read of %q: %s, error %d, want %s, error %d", what, file, shown(l), e, shown(want), none)
	}
}

// mill makes deeds: most of them right, near the edges.
type mill struct {
	*rand.Rand
	files int
}

func (m mill) file() string {
	if m.Intn(40) == 0 {
		return []string{"", "\x7f", " ", "a name", strings.Repeat("x", 16), strings.Repeat("x", 17)}[m.Intn(6)]
	}
	n := m.Intn(m.files)
	return strings.Repeat(string(rune('a'+n%7)), 1+n/7%3) + strings.Repeat("z", n/21%2) + strings.Repeat("y", n/42)
}

func (m mill) bytes() string {
	n := m.Intn(4)
	if m.Intn(15) == 0 {
		n = 63 + m.Intn(3)
	}
	return strings.Repeat(string(rune(m.Intn(4)+'\x00')), n)
}

func (m mill) place(count int) int {
	switch m.Intn(20) {
	case 0:
		return -1
	case 1:
		return count + 1
	case 2, 3, 4, 5, 6, 7, 8, 9:
		return count
	}
	return m.Intn(count + 1)
}

func (m mill) fates() []int {
	var l []int
	for range m.Intn(14) {
		l = append(l, m.Intn(19)-9)
	}
	return l
}

// step does one deed on both, and asks for the same answer.
func (m mill) step(t *testing.T, x pair) {
	t.Helper()
	switch f := m.file(); m.Intn(30) {
	case 0:
		k := m.Intn(9) - 2
		x.Cut(k)
		x.fuse = k
	case 1:
		m.crash(t, x)
	case 2, 3, 4:
		wantErr(t, "Sync of "+f, x.Sync(f), x.sync(f))
	case 5:
		x.wantReadAlike(t, "on the way", f)
	default:
		at, b := m.place(len(x.files[f])), m.bytes()
		wantErr(t, fmt.Sprintf("Write(%q, %d, %q)", f, at, b), x.Write(f, at, b), x.write(f, at, b))
	}
}

// crash asks, too, for what lasts by P1504 and P1505.
func (m mill) crash(t *testing.T, x pair) {
	t.Helper()
	ahead := map[string][]cell{}
	for f, l := range x.files {
		ahead[f] = slices.Clone(l)
	}
	fates := m.fates()
	x.Crash(fates)
	for _, f := range x.Files() {
		l, _ := x.Read(f)
		if len(l) > len(ahead[f]) {
			t.Errorf("a crash made sectors of %s: %s", f, shown(l))
		}
		for i, got := range l[:min(len(l), len(ahead[f]))] {
			wantOneOf(t, fmt.Sprint(f, " ", i), got, ahead[f][i])
		}
	}
	for f, l := range ahead {
		now, _ := x.Read(f)
		for i, c := range l {
			if !c.wrote && (i >= len(now) || now[i] != c.sure) {
				t.Errorf("%s %d was sure: %s", f, i, shown(now))
			}
			if c.some && i >= len(now) {
				t.Errorf("%s %d is gone: %s", f, i, shown(now))
			}
		}
	}
	x.crash(fates)
	x.wantAlike(t, fmt.Sprint("crash ", fates))
}

func wantOneOf(t *testing.T, what string, got sector.Sector, was cell) {
	t.Helper()
	zeros := sector.Sector{B: full("")}
	switch {
	case got == was.now:
	case was.some && got == was.sure:
	case !was.some && got == zeros:
	case was.wrote && got == sector.Sector{Bad: true}:
	default:
		t.Errorf("%s: %s, of %+v", what, shown([]sector.Sector{got}), was)
	}
}

func TestP1503ByHand(t *testing.T) {
	for seed := range int64(120) {
		m := mill{rand.New(rand.NewSource(seed)), []int{1, 2, 5, 60}[seed%4]}
		x := newPair(t, []int{1, 4, 12, 40, 300}[seed%5])
		for i := range 700 {
			m.step(t, x)
			if i%25 == 0 {
				x.wantAlike(t, "step by step")
			}
			if t.Failed() {
				t.Fatal("seed ", seed, ", step ", i)
			}
		}
		m.crash(t, x)
	}
}

// TestP1503ByHandTwo: two disks by turns, neither changing the other.
func TestP1503ByHandTwo(t *testing.T) {
	m := mill{rand.New(rand.NewSource(1502)), 6}
	l := []pair{newPair(t, 20), newPair(t, 30)}
	for i := range 6000 {
		m.step(t, l[m.Intn(2)])
		if i%50 == 0 {
			l[0].wantAlike(t, "one")
			l[1].wantAlike(t, "other")
		}
		if t.Failed() {
			t.Fatal("step ", i)
		}
	}
}

// TestP1504Sure: what was synced is there behind each crash, at each operation
// and with each fate of all others.
func TestP1504Sure(t *testing.T) {
	did := []string{"write f 0 a", "write f 1 b", "sync f", "write f 2 x", "write g 0 x", "write f 0 x", "sync g", "write g 1 x", "write f 2 x"}
	for k := range len(did) + 1 {
		for n := range 81 {
			d := newDisk(t, 10)
			d.Cut(k)
			done := 0
			for _, deed := range did {
				if do(t, d, deed) == api.OK {
					done++
				}
			}
			if done != k {
				t.Fatal(k, done)
			}
			d.Crash([]int{n % 3, n / 3 % 3, n / 9 % 3, n / 27})
			f, _ := d.Read("f")
			if k >= 3 && (len(f) < 2 || f[1].B != full("b")) {
				t.Errorf("cut %d, fates %d: f 1: %s", k, n, shown(f))
			}
			if k >= 3 && k < 6 && f[0].B != full("a") {
				t.Errorf("cut %d, fates %d: f 0: %s", k, n, shown(f))
			}
			if g, _ := d.Read("g"); k >= 7 && (len(g) < 1 || g[0].B != full("x")) {
				t.Errorf("cut %d, fates %d: g 0: %s", k, n, shown(g))
			}
		}
	}
}

// TestP1504EachCrash: what was synced once lasts, however many crashes befall
// what is written beside it.
func TestP1504EachCrash(t *testing.T) {
	m := mill{rand.New(rand.NewSource(1504)), 3}
	d := newDisk(t, 30)
	deeds(t, d, "write sure 0 a", "write sure 1 b", "write sure 2 c", "sync sure", "write a 0 x", "sync a")
	for range 300 {
		d.Write("sure", 3, "y")
		d.Write("sure", 1, m.bytes())
		d.Write("a", 0, m.bytes())
		d.Write("b", 0, m.bytes())
		d.Crash(m.fates())
		l, e := d.Read("sure")
		if e != api.OK || len(l) < 3 || l[0].B != full("a") || l[2].B != full("c") {
			t.Fatal(shown(l), e)
		}
	}
}

// TestP1505OneByOne: each fate of each of three sectors, an elder one, a new one,
// and a new one at the end; there is no other sector than those that the chapter
// names.
func TestP1505OneByOne(t *testing.T) {
	elder, inner, last := []string{"a", "A", "!"}, []string{".", "b", "!"}, []string{"", "c", "!"}
	for n := range 27 {
		d := newDisk(t, 10)
		deeds(t, d, "write f 0 a", "sync f", "write f 0 A", "write f 1 b", "write f 2 c")
		i, j, k := n%3, n/3%3, n/9
		d.Crash([]int{i, j, k})
		want := elder[i] + " " + inner[j] + " " + last[k]
		if j == 0 && k == 0 {
			want = elder[i]
		}
		wantDisk(t, fmt.Sprint(i, j, k), d, "f: "+want)
	}
}

// FuzzP1505: disks by deeds that bytes tell.
func FuzzP1505(f *testing.F) {
	f.Add([]byte("\x04write f 0 a, sync f"), 4)
	f.Add([]byte{0, 0, 0, 1, 1, 1, 2, 2, 2, 250, 251, 252, 3, 4, 5, 6}, 12)
	f.Fuzz(func(t *testing.T, b []byte, most int) {
		if _, e := sector.New(most); e != api.OK {
			return
		}
		x := newPair(t, most)
		for i := 0; i+2 < len(b); i += 3 {
			file, at, text := string([]byte{'a' + b[i+1]%5}), int(b[i+2]%6)-1, strings.Repeat("t", int(b[i+1]%66))
			switch b[i] % 6 {
			case 0:
				wantErr(t, "Sync", x.Sync(file), x.sync(file))
			case 1:
				x.Cut(at)
				x.fuse = at
			case 2:
				fates := []int{int(b[i+1]) - 128, int(b[i+2]), i, at}
				x.Crash(fates)
				x.crash(fates)
			default:
				wantErr(t, "Write", x.Write(file, at, text), x.write(file, at, text))
			}
			x.wantAlike(t, fmt.Sprint("step ", i))
		}
	})
}
