package view_test

import (
	"fmt"
	"reflect"
	"slices"
	"strings"
	"testing"
	"unsafe"

	"weighhouse/api"
	"weighhouse/message"
	"weighhouse/view"
)

// wantNothing: each call of a Replica that is none answers ErrArg, or nothing.
func wantNothing(t *testing.T, what string, r *view.Replica) {
	t.Helper()
	for _, data := range []string{"", "a", strings.Repeat("d", longest+1)} {
		if n, w, e := r.Request(data); n != 0 || e != api.ErrArg || tellWork(w) != "" {
			t.Error(what, "Request", n, e)
		}
	}
	if w, e := r.Tick(); e != api.ErrArg || tellWork(w) != "" {
		t.Error(what, "Tick", e)
	}
	for _, m := range []message.Message{{}, {Kind: message.StartViewChange, From: 1, View: 1}, {Kind: message.Prepare, To: 1, Log: many(1)}} {
		if w, e := r.Step(m); e != api.ErrArg || tellWork(w) != "" {
			t.Error(what, "Step", e)
		}
	}
	if s := r.State(); tellState(s) != "" || r.Leads() || r.Normal() {
		t.Error(what, "is", tellState(s), r.Leads(), r.Normal())
	}
}

func TestP1801NoReplica(t *testing.T) {
	for range 2 {
		wantNothing(t, "nil", nil)
		wantNothing(t, "one that New did not make", &view.Replica{})
		wantNothing(t, "another one", new(view.Replica))
	}
}

// TestP1801Copies: a copy of what New answered stays the same replica.
func TestP1801Copies(t *testing.T) {
	r := mustNew(t, 0, 3, message.State{})
	c := *r
	c.Request("a0")
	r.Request("b0")
	wantStatus(t, "the copy", &c, "[a0 b0] leads")
	wantStatus(t, "the other", r, "[a0 b0] leads")
}

// TestP1801Calls: a Replica has the chapter's calls alone, and nothing else to be
// reached from outside.
func TestP1801Calls(t *testing.T) {
	var names []string
	x := reflect.TypeFor[*view.Replica]()
	for i := range x.NumMethod() {
		names = append(names, x.Method(i).Name)
	}
	if !slices.Equal(names, []string{"Leads", "Normal", "Request", "State", "Step", "Tick"}) {
		t.Error("calls", names)
	}
	for _, f := range reflect.VisibleFields(x.Elem()) {
		if f.IsExported() {
			t.Error("a field", f.Name)
		}
	}
}

// roomy answers a copy of a log with room behind it that is known.
func roomy(l []message.Entry) []message.Entry {
	behind := message.Entry{View: 77, Data: "behind"}
	return append(slices.Clone(l), behind, behind, behind)[:len(l)]
}

func wantRoom(t *testing.T, what string, got, want []message.Entry) {
	t.Helper()
	if whole := roomy(want); !slices.Equal(got[:cap(whole)][:len(want)+3], whole[:len(want)+3]) {
		t.Errorf("%s: what was handed in has changed", what)
	}
}

// spoil writes all over a log, and the room behind it.
func spoil(l []message.Entry) {
	l = l[:cap(l)]
	for i := range l {
		l[i] = message.Entry{View: 99, Data: "spoilt"}
	}
}

func TestP1801NilIsEmpty(t *testing.T) {
	for _, log := range [][]message.Entry{nil, {}, many(3)[:0]} {
		r := mustNew(t, 1, 3, message.State{Log: log})
		wantStatus(t, "an empty log", r, "follows")
		for kind, want := range map[int]string{
			message.Prepare:         "> PrepareOk 1>0",
			message.PrepareOk:       "",
			message.Commit:          "",
			message.StartViewChange: "",
			message.DoViewChange:    "",
			message.StartView:       "> PrepareOk 1>0",
			message.GetState:        "> NewState 1>0",
			message.NewState:        "> PrepareOk 1>0",
		} {
			w, e := r.Step(message.Message{Kind: kind, To: 1, Log: log})
			if e != api.OK {
				t.Error(messageKinds[kind], e)
			}
			wantWork(t, messageKinds[kind], w, want)
		}
	}
}

// steps are such that each takes a log up, with the state of the one that takes it, and
// what it has then.
var steps = []struct{ start, message, want string }{
	{"[a0]", "Prepare 0>1 op1 [b0 c0]", "[a0 b0 c0] follows"},
	{"[a0]", "Prepare 0>1 [a0 b0 c0]", "[a0 b0 c0] follows"},
	{"[a0]", "NewState 0>1 op1 [b0 c0]", "[a0 b0 c0] follows"},
	{"v2 [a0]", "StartView 2>1 v2 [a0 b0 c0]", "v2 n2 [a0 b0 c0] follows"},
	{"[a0]", "StartView 0>1 v3 [a0 b0 c0]", "v3 n3 [a0 b0 c0] follows"},
	{"v1 [a0]", "DoViewChange 0>1 v1 [a0 b0 c0]", "v1 n1 [a0 b0 c0] leads"},
	{"v3 [a0]", "NewState 0>1 v3 [b0 c0]", "v3 n3 [b0 c0] follows"},
}

// ready answers a replica to which one of the steps may come: it joins, or counted itself.
func ready(t *testing.T, start string) *view.Replica {
	r := mustNew(t, 1, 3, readState(start))
	switch start {
	case "v3 [a0]":
		r.Step(readMessage("Commit 0>1 v3"))
	case "v1 [a0]":
		r.Step(readMessage("StartViewChange 0>1 v1"))
	}
	return r
}

// TestP1801HandedIn: neither a state nor a message is changed or kept, nor the room
// behind its log.
func TestP1801HandedIn(t *testing.T) {
	for _, x := range steps {
		r := ready(t, x.start)
		m := readMessage(x.message)
		kept := slices.Clone(m.Log)
		m.Log = roomy(m.Log)
		if _, e := r.Step(m); e != api.OK {
			t.Error(x.message, e)
		}
		wantRoom(t, x.message, m.Log, kept)
		spoil(m.Log)
		wantStatus(t, x.message, r, x.want)
		r.Request("d0")
		r.Tick()
		wantSpoilt(t, x.message, m.Log)
	}
	s := readState("c1 [a0 b0]")
	kept := slices.Clone(s.Log)
	s.Log = roomy(s.Log)
	r := mustNew(t, 0, 3, s)
	r.Request("c0")
	wantRoom(t, "New", s.Log, kept)
	spoil(s.Log)
	wantStatus(t, "New", r, "c1 [a0 b0 c0] leads")
}

func wantSpoilt(t *testing.T, what string, l []message.Entry) {
	t.Helper()
	for _, x := range l[:cap(l)] {
		if x.Data != "spoilt" {
			t.Error(what, "what was handed in is kept")
			return
		}
	}
}

// TestP1801TextsAreNew: a log's Data are not those that were handed in.
func TestP1801TextsAreNew(t *testing.T) {
	data := strings.Repeat("d", 100)
	log := []message.Entry{{Data: data}}
	asked := mustNew(t, 0, 3, message.State{})
	asked.Request(data)
	told := mustNew(t, 1, 3, message.State{})
	told.Step(message.Message{Kind: message.Prepare, To: 1, Log: log})
	for what, r := range map[string]*view.Replica{"New": mustNew(t, 0, 3, message.State{Log: log}), "Request": asked, "Step": told} {
		if s := r.State(); s.Log[0].Data != data || unsafe.StringData(s.Log[0].Data) == unsafe.StringData(data) {
			t.Error(what, "keeps what was handed in")
		}
	}
}

// TestP1801LateVote: a DoViewChange is not kept in the sender's room till it is asked for.
func TestP1801LateVote(t *testing.T) {
	r := mustNew(t, 1, 3, message.State{View: 1})
	m := readMessage("DoViewChange 0>1 v1 [a0 b0]")
	r.Step(m)
	spoil(m.Log)
	r.Step(readMessage("StartViewChange 2>1 v1"))
	wantStatus(t, "the primary", r, "v1 n1 [a0 b0] leads")
}

// logsOf answers the logs of a work.
func logsOf(w view.Work) [][]message.Entry {
	var l [][]message.Entry
	for _, r := range w.Save {
		l = append(l, r.Log)
	}
	for _, m := range w.Send {
		l = append(l, m.Log)
	}
	return l
}

// TestP1801AnswersAreNew: writing all over a list that is answered, and the room behind
// it, changes no other one, and nothing of the replica.
func TestP1801AnswersAreNew(t *testing.T) {
	for what, f := range map[string]func() (*view.Replica, func() (view.Work, api.Errno), string){
		"Request": func() (*view.Replica, func() (view.Work, api.Errno), string) {
			r := mustNew(t, 0, 3, readState("[a0]"))
			return r, func() (view.Work, api.Errno) { _, w, e := r.Request("b0"); return w, e }, "[a0 b0] leads"
		},
		"Tick": func() (*view.Replica, func() (view.Work, api.Errno), string) {
			r := mustNew(t, 0, 3, readState("[a0 b0]"))
			r.Tick()
			return r, r.Tick, "[a0 b0] leads"
		},
		"GetState": func() (*view.Replica, func() (view.Work, api.Errno), string) {
			r := mustNew(t, 0, 3, readState("[a0 b0]"))
			return r, func() (view.Work, api.Errno) { return r.Step(readMessage("GetState 1>0")) }, "[a0 b0] leads"
		},
		"a vote": func() (*view.Replica, func() (view.Work, api.Errno), string) {
			r := mustNew(t, 0, 3, readState("[a0 b0]"))
			return r, func() (view.Work, api.Errno) { return r.Step(readMessage("StartViewChange 2>0 v1")) }, "v1 [a0 b0] changes"
		},
		"a new View": func() (*view.Replica, func() (view.Work, api.Errno), string) {
			r := ready(t, "v1 [a0]")
			return r, func() (view.Work, api.Errno) { return r.Step(readMessage("DoViewChange 0>1 v1 [a0 b0]")) }, "v1 n1 [a0 b0] leads"
		},
		"its own vote": func() (*view.Replica, func() (view.Work, api.Errno), string) {
			r := ready(t, "v1 [a0 b0]")
			r.Step(readMessage("DoViewChange 0>1 v1 [a0]"))
			return r, func() (view.Work, api.Errno) { return r.Step(readMessage("StartViewChange 2>1 v1")) }, "v1 n1 [a0 b0] leads"
		},
	} {
		n := 1
		for i := 0; i < n; i++ {
			r, call, want := f()
			w, e := call()
			lists := logsOf(w)
			n = len(lists)
			if e != api.OK || n == 0 {
				t.Fatal(what, e, n)
			}
			var kept [][]message.Entry
			for _, l := range lists {
				kept = append(kept, slices.Clone(l))
			}
			spoil(lists[i])
			for j, l := range lists {
				if j != i && !slices.Equal(l, kept[j]) {
					t.Error(what, "lists", i, j, "share their room")
				}
			}
			wantStatus(t, what, r, want)
		}
	}
	for _, x := range steps {
		r := ready(t, x.start)
		w, _ := r.Step(readMessage(x.message))
		for _, l := range logsOf(w) {
			spoil(l)
		}
		wantStatus(t, x.message, r, x.want)
	}
}

// TestP1801StateIsNew: what State answers is apart from the replica.
func TestP1801StateIsNew(t *testing.T) {
	r := mustNew(t, 0, 3, readState("c1 [a0 b0]"))
	for range 5 {
		a, b := r.State(), r.State()
		spoil(a.Log)
		if tellState(b) != "c1 [a0 b0]" {
			t.Error("two states share their room")
		}
	}
	wantStatus(t, "the replica", r, "c1 [a0 b0] leads")
	s := r.State()
	r.Request("c0")
	s.Log = append(s.Log, message.Entry{Data: "x"})
	wantStatus(t, "the replica", r, "c1 [a0 b0 c0] leads")
	if tellState(s) != "c1 [a0 b0 x(0)]" {
		t.Error(tellState(s))
	}
	old := mustNew(t, 0, 3, s)
	old.Request("d0")
	wantStatus(t, "the replica", r, "c1 [a0 b0 c0] leads")
}

// TestP1801Alike: what a replica answers hangs on what it was made of and told alone.
func TestP1801Alike(t *testing.T) {
	for seed := range int64(30) {
		var tales [2]string
		for i := range tales {
			tales[i] = tale(seed)
		}
		if tales[0] != tales[1] {
			t.Error(seed, "two tales of one seed differ")
		}
	}
}

// tale tells what a replica answers to calls out of a seed.
func tale(seed int64) string {
	g := newMill(seed)
	n := []int{1, 3, 5, 7}[g.Intn(4)]
	id := g.Intn(n)
	r, _ := view.New(id, n, g.state())
	var l []string
	for range 100 {
		w, e := g.call(r, id, n)
		l = append(l, fmt.Sprint(e, "\n", tellWork(w), "\n", tellStatus(r)))
	}
	return strings.Join(l, "\n")
}

// TestP1801ManyAtOnce: replicas at the same time don't disturb each other.
func TestP1801ManyAtOnce(t *testing.T) {
	done := make(chan string)
	for range 8 {
		go func() { done <- tale(5) }()
	}
	want := tale(5)
	for range 8 {
		if got := <-done; got != want {
			t.Error("another tale")
		}
	}
}

// TestP1801Anything: whatever is called, also what no true replica tells: an answer, and
// a state that a replica may have, whose changes are all saved.
func TestP1801Anything(t *testing.T) {
	for seed := range int64(400) {
		g := newMill(1801 + seed)
		n := []int{1, 3, 5, 7}[g.Intn(4)]
		id := g.Intn(n)
		r := mustNew(t, id, n, g.state())
		for i := range 150 {
			before := r.State()
			w, e := g.call(r, id, n)
			what := fmt.Sprint("seed ", seed, " call ", i)
			if e != api.OK && (tellWork(w) != "" || tellState(r.State()) != tellState(before)) {
				t.Error(what, "an error, and something is changed")
			}
			wantLasting(t, what, n, id, before, w, r.State())
			wantSends(t, what, n, id, w)
			if r.Leads() && (!r.Normal() || view.Primary(r.State().View, n) != id) {
				t.Error(what, "it leads")
			}
			if t.Failed() {
				return
			}
		}
	}
}
