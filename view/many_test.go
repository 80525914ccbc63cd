package view_test

import (
	"fmt"
	"slices"
	"testing"

	"weighhouse/api"
	"weighhouse/message"
	"weighhouse/view"
)

// group plays replicas against one another, with what each wrote down, and messages on
// their way.
type group struct {
	mill
	t         *testing.T
	name      string
	n         int
	rs        []*view.Replica // nil: it is not there
	written   [][]message.Record
	letters   []message.Message
	committed []message.Entry // the longest that any one has
	least     []int           // of each, how many of them it knew to be committed when all was written
	asked     int
	views     int // the greatest View that one led in
	leaders   map[int]int
	mute      int // whose letters are lost; -1: nobody's
	torn      int // how likely it is, out of a thousand, that one crashes while it writes several records
}

func newGroup(t *testing.T, name string, n int, seed int64) *group {
	g := &group{mill: newMill(seed), t: t, name: name, n: n, leaders: map[int]int{}, mute: -1}
	for id := range n {
		g.rs = append(g.rs, mustNew(t, id, n, message.State{}))
		g.written = append(g.written, nil)
		g.least = append(g.least, 0)
	}
	return g
}

// do lets a replica do something. It may crash in it: then a beginning of what it saves
// is written, and nothing is sent.
func (g *group) do(id int, crashes bool, f func(r *view.Replica) (view.Work, api.Errno)) api.Errno {
	g.t.Helper()
	r := g.rs[id]
	before := r.State()
	w, e := f(r)
	if crashes || len(w.Save) > 1 && g.Intn(1000) < g.torn {
		g.written[id] = append(g.written[id], w.Save[:g.Intn(len(w.Save)+1)]...)
		g.rs[id] = nil
		return e
	}
	wantLasting(g.t, g.name, g.n, id, before, w, r.State())
	wantSends(g.t, g.name, g.n, id, w)
	g.written[id] = append(g.written[id], w.Save...)
	g.letters = append(g.letters, w.Send...)
	g.look(id, r.State(), r.Leads())
	return e
}

// start lets a replica come back with what was written.
func (g *group) start(id int) {
	g.t.Helper()
	s, ok := message.Fold(g.written[id])
	r, e := view.New(id, g.n, s)
	if !ok || e != api.OK {
		g.t.Fatal(g.name, id, "does not come back:", e)
	}
	g.rs[id] = r
	g.look(id, s, r.Leads())
}

// look holds what one has committed against what all others have.
func (g *group) look(id int, s message.State, leads bool) {
	g.t.Helper()
	l := s.Log[:s.Commit]
	both := min(len(l), len(g.committed))
	if !slices.Equal(l[:both], g.committed[:both]) {
		g.t.Fatalf("%s: %d has committed\n%s\nbut there is\n%s", g.name, id, tellState(message.State{Log: l}), tellState(message.State{Log: g.committed}))
	}
	if len(l) > len(g.committed) {
		g.committed = slices.Clone(l)
	}
	if s.Commit < g.least[id] {
		g.t.Fatal(g.name, id, "has committed less than it had")
	}
	g.least[id] = s.Commit
	if leads {
		if other, ok := g.leaders[s.View]; ok && other != id {
			g.t.Fatal(g.name, "two lead in View", s.View)
		}
		g.leaders[s.View] = id
		g.views = max(g.views, s.View)
	}
}

func (g *group) deliver(at int, crashes bool) {
	g.t.Helper()
	m := g.letters[at]
	g.letters = slices.Delete(g.letters, at, at+1)
	if g.rs[m.To] == nil || m.To == g.mute || m.From == g.mute {
		return
	}
	if e := g.do(m.To, crashes, func(r *view.Replica) (view.Work, api.Errno) { return r.Step(m) }); e != api.OK {
		g.t.Fatal(g.name, tellMessage(m), "error", e)
	}
}

// ask asks a replica for something that nobody was asked for yet.
func (g *group) ask(id int, crashes bool) api.Errno {
	g.t.Helper()
	g.asked++
	return g.do(id, crashes, func(r *view.Replica) (view.Work, api.Errno) {
		_, w, e := r.Request(fmt.Sprint("r", g.asked))
		return w, e
	})
}

// mood is how likely things are, out of a thousand.
type mood struct {
	tick, ask, lost, doubled, crash, start, torn int
	mutes                                        int  // whether another one is mute from now on
	turns                                        bool // whether letters are turned round
}

// happen lets something happen.
func (g *group) happen(m mood) {
	g.t.Helper()
	id := g.Intn(g.n)
	if g.Intn(1000) < m.mutes {
		g.mute = g.Intn(g.n+1) - 1
	}
	crashes := g.Intn(1000) < m.crash
	if g.rs[id] == nil {
		if g.Intn(1000) < m.start {
			g.start(id)
		}
		return
	}
	x := g.Intn(1000)
	is := func(share int) bool { x -= share; return x < 0 }
	switch {
	case is(m.tick):
		g.do(id, crashes, (*view.Replica).Tick)
	case is(m.ask):
		if at := g.Intn(g.n); g.rs[at] != nil && g.rs[at].Leads() {
			id = at
		}
		g.ask(id, crashes)
	case len(g.letters) == 0:
	case is(m.lost):
		at := g.Intn(len(g.letters))
		g.letters = slices.Delete(g.letters, at, at+1)
	case is(m.doubled):
		g.letters = append(g.letters, g.letters[g.Intn(len(g.letters))])
	case m.turns && g.Intn(3) > 0:
		g.deliver(g.Intn(len(g.letters)), crashes)
	default:
		g.deliver(0, crashes)
	}
	if len(g.letters) > 200 {
		g.letters = slices.Delete(g.letters, 0, 100)
	}
}

// TestP1806OneLog: whatever is lost, doubled, turned round, and whoever crashes.
func TestP1806OneLog(t *testing.T) {
	moods := []mood{
		{tick: 60, ask: 60},
		{tick: 200, ask: 60, lost: 10, doubled: 50, crash: 3, start: 50, mutes: 10, turns: true},
		{tick: 250, ask: 50, lost: 20, doubled: 100, crash: 20, start: 300, mutes: 20, turns: true},
		{tick: 250, ask: 30, lost: 200, doubled: 20, crash: 1, start: 10, mutes: 10},
		{tick: 250, ask: 80, lost: 10, doubled: 10, crash: 40, start: 900, mutes: 10},
		{tick: 250, ask: 100, doubled: 100, crash: 1, start: 500, mutes: 20, torn: 300},
	}
	var committed, views [6]int
	for seed := range int64(80) {
		for i, m := range moods {
			n := []int{3, 5, 3, 7, 1}[(int(seed)+i)%5]
			g := newGroup(t, fmt.Sprint("mood ", i, " seed ", seed), n, seed)
			g.torn = m.torn
			for range 1500 {
				g.happen(m)
			}
			committed[i] += len(g.committed)
			views[i] += g.views
		}
	}
	for i := range moods {
		if committed[i] < 500 || i > 0 && views[i] < 50 {
			t.Error("too little happened:", committed, "entries,", views, "Views")
		}
	}
}

// settle lets all run, and all arrive, till one leads, and all have committed all that it
// has, for some rounds: a backup may have been close to the end of its patience. It
// answers after how many rounds that was.
func (g *group) settle() int {
	g.t.Helper()
	g.mute, g.torn = -1, 0
	quiet := 0
	for round := range 60 {
		for id := range g.rs {
			if g.rs[id] == nil {
				g.start(id)
			}
		}
		if quiet++; !g.isSettled() {
			quiet = 0
		}
		if quiet > 3 {
			return round
		}
		for id := range g.rs {
			g.do(id, false, (*view.Replica).Tick)
		}
		for i := 0; len(g.letters) > 0; i++ {
			if i > 20000 {
				g.t.Fatal(g.name, "letters without an end")
			}
			g.deliver(0, false)
		}
	}
	g.t.Fatal(g.name, "nobody comes to lead")
	return 0
}

func (g *group) leader() int {
	for id, r := range g.rs {
		if r.Leads() {
			return id
		}
	}
	return -1
}

// isSettled answers whether one leads, and all others follow it, and have committed all.
func (g *group) isSettled() bool {
	id := g.leader()
	if id < 0 {
		return false
	}
	s := g.rs[id].State()
	s.Commit = len(s.Log)
	for _, r := range g.rs {
		if !r.Normal() || tellState(r.State()) != tellState(s) {
			return false
		}
	}
	return true
}

// TestP1807InTheEnd: out of whatever state, one comes to lead, and what is asked of it is
// committed by all.
func TestP1807InTheEnd(t *testing.T) {
	longest := 0
	for seed := range int64(300) {
		n := []int{1, 3, 5, 7}[seed%4]
		g := newGroup(t, fmt.Sprint("seed ", seed), n, 1807+seed)
		for range 1000 {
			g.happen(mood{tick: 300, ask: 30, lost: 100, doubled: 50, crash: 10, start: 50, turns: true})
		}
		longest = max(longest, g.settle())
		lead, had := g.leader(), len(g.committed)
		for range 3 {
			if e := g.ask(lead, false); e != api.OK {
				t.Fatal(g.name, "asked:", e)
			}
		}
		longest = max(longest, g.settle())
		if g.leader() != lead || len(g.committed) != had+3 {
			t.Error(g.name, "of what was asked is committed", len(g.committed)-had)
		}
		g.rs[lead] = nil // it crashes, and comes back
		g.settle()
	}
	if longest > 30 {
		t.Error("it took", longest, "rounds")
	}
}

// TestP1807WithoutOne: more than half are enough.
func TestP1807WithoutOne(t *testing.T) {
	for _, n := range []int{3, 5, 7} {
		g := newGroup(t, fmt.Sprint("of ", n), n, int64(n))
		g.ask(0, false)
		for id := range n / 2 {
			g.rs[id] = nil
		}
		for range 100 {
			for id := range g.rs {
				if g.rs[id] != nil {
					g.do(id, false, (*view.Replica).Tick)
				}
			}
			for len(g.letters) > 0 {
				g.deliver(0, false)
			}
		}
		lead := -1
		for id, r := range g.rs {
			if r != nil && r.Leads() {
				lead = id
			}
		}
		if lead < n/2 {
			t.Fatal(g.name, "nobody leads")
		}
		had := len(g.committed)
		g.ask(lead, false)
		for len(g.letters) > 0 {
			g.deliver(0, false)
		}
		if len(g.committed) != had+1 {
			t.Error(g.name, "it is not committed")
		}
		g.settle()
	}
}

// TestP1807Late: a replica that was not there for long joins by the primary's log.
func TestP1807Late(t *testing.T) {
	g := newGroup(t, "late", 3, 1)
	g.rs[2] = nil
	for range 50 {
		g.ask(0, false)
		for len(g.letters) > 0 {
			g.deliver(0, false)
		}
	}
	if len(g.committed) != 50 {
		t.Fatal("committed", len(g.committed))
	}
	g.settle()
	if s := g.rs[2].State(); s.Commit != 50 || s.View != 0 {
		t.Error(shorten(tellState(s)))
	}
}
