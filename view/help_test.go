package view_test

import (
	"fmt"
	"slices"
	"strconv"
	"strings"
	"testing"

	"weighhouse/api"
	"weighhouse/message"
	"weighhouse/view"
)

const (
	longest  = 16384   // Data
	lastView = 1 << 40 // that a message may have
	newest   = 1 << 39 // that a state may have
)

var messageKinds = []string{"", "Prepare", "PrepareOk", "Commit", "StartViewChange", "DoViewChange", "StartView", "GetState", "NewState"}
var recordKinds = []string{"", "Views", "Logs", "Commits"}

// entries answers one of each word, whose View is the digit at its end.
func entries(words string) []message.Entry {
	var l []message.Entry
	for _, s := range strings.Fields(words) {
		l = append(l, message.Entry{View: int(s[len(s)-1] - '0'), Data: s})
	}
	return l
}

// many answers n entries of View 0, no two of them alike.
func many(n int) []message.Entry {
	l := make([]message.Entry, n)
	for i := range l {
		l[i].Data = fmt.Sprint("e", i)
	}
	return l
}

// fields are the numbers and the log of a message, a record or a state, as a text: those
// that are 0 or empty are left out.
type fields struct {
	view, op, commit, normal int
	log                      []message.Entry
}

func (f fields) String() string {
	var l []string
	for _, x := range []struct {
		name string
		n    int
	}{{"v", f.view}, {"op", f.op}, {"c", f.commit}, {"n", f.normal}} {
		if x.n != 0 {
			l = append(l, x.name+strconv.Itoa(x.n))
		}
	}
	if len(f.log) > 0 {
		var words []string
		for _, x := range f.log {
			words = append(words, tellEntry(x))
		}
		l = append(l, "["+strings.Join(words, " ")+"]")
	}
	return strings.Join(l, " ")
}

// tellEntry is its Data alone, if that is a word with its View at the end.
func tellEntry(x message.Entry) string {
	if strings.HasSuffix(x.Data, strconv.Itoa(x.View)) {
		return x.Data
	}
	return fmt.Sprintf("%s(%d)", x.Data, x.View)
}

func readFields(s string) fields {
	var f fields
	s, words, _ := strings.Cut(s, "[")
	f.log = entries(strings.TrimSuffix(words, "]"))
	for _, x := range strings.Fields(s) {
		for name, p := range map[string]*int{"v": &f.view, "op": &f.op, "c": &f.commit, "n": &f.normal} {
			if n, e := strconv.Atoi(strings.TrimPrefix(x, name)); e == nil && strings.HasPrefix(x, name) {
				*p = n
			}
		}
	}
	return f
}

func tellMessage(m message.Message) string {
	return strings.TrimSpace(fmt.Sprintf("%s %d>%d %v", messageKinds[m.Kind], m.From, m.To, fields{m.View, m.Op, m.Commit, m.Normal, m.Log}))
}

// readMessage answers that of a text such as Prepare 0>1 v1 op2 c1 [a0 b1].
func readMessage(s string) message.Message {
	kind, s, _ := strings.Cut(s, " ")
	ways, s, _ := strings.Cut(s, " ")
	from, to, _ := strings.Cut(ways, ">")
	m := message.Message{Kind: slices.Index(messageKinds, kind)}
	m.From, _ = strconv.Atoi(from)
	m.To, _ = strconv.Atoi(to)
	f := readFields(s)
	m.View, m.Op, m.Commit, m.Normal, m.Log = f.view, f.op, f.commit, f.normal, f.log
	return m
}

func tellRecord(r message.Record) string {
	return strings.TrimSpace(fmt.Sprintf("%s %v", recordKinds[r.Kind], fields{r.View, r.Op, 0, r.Normal, r.Log}))
}

func tellState(s message.State) string {
	return fields{s.View, 0, s.Commit, s.Normal, s.Log}.String()
}

func readState(s string) message.State {
	f := readFields(s)
	return message.State{View: f.view, Normal: f.normal, Commit: f.commit, Log: f.log}
}

// tellWork has a line for each record, and one for each message.
func tellWork(w view.Work) string {
	var l []string
	for _, r := range w.Save {
		l = append(l, "save "+tellRecord(r))
	}
	for _, m := range w.Send {
		l = append(l, "> "+tellMessage(m))
	}
	return strings.Join(l, "\n")
}

// tellStatus is what a replica is: its state, and whether it is normal, and leads.
func tellStatus(r *view.Replica) string {
	l := strings.Fields(tellState(r.State()))
	switch {
	case r.Leads() && r.Normal():
		l = append(l, "leads")
	case r.Leads():
		l = append(l, "leads, but is not normal")
	case r.Normal():
		l = append(l, "follows")
	default:
		l = append(l, "changes")
	}
	return strings.Join(l, " ")
}

func shorten(s string) string {
	if len(s) > 600 {
		return s[:600] + ".."
	}
	return s
}

func mustNew(t *testing.T, id, n int, s message.State) *view.Replica {
	t.Helper()
	r, e := view.New(id, n, s)
	if r == nil || e != api.OK {
		t.Fatalf("New of %d of %d, %s: error %d", id, n, shorten(tellState(s)), e)
	}
	return r
}

func wantStatus(t *testing.T, what string, r *view.Replica, want string) {
	t.Helper()
	if got := tellStatus(r); got != want {
		t.Errorf("%s: it is\n%s\nwant\n%s", what, shorten(got), shorten(want))
	}
}

func wantWork(t *testing.T, what string, w view.Work, want string) {
	t.Helper()
	if got := tellWork(w); got != want {
		t.Errorf("%s: it answers\n%s\nwant\n%s", what, shorten(got), shorten(want))
	}
}

// stateRecords answers records that tell a state.
func stateRecords(s message.State) []message.Record {
	return []message.Record{
		{Kind: message.Views, View: s.View, Normal: s.Normal},
		{Kind: message.Logs, Log: s.Log},
		{Kind: message.Commits, Op: s.Commit},
	}
}

// wantLasting: what w saves tells the change from one state to the other, and each
// beginning of it a state that a replica may come back with; Commit is never less.
func wantLasting(t *testing.T, what string, n, id int, before message.State, w view.Work, after message.State) {
	t.Helper()
	l := stateRecords(before)
	for i := range len(w.Save) + 1 {
		s, ok := message.Fold(slices.Concat(l, w.Save[:i]))
		if _, e := view.New(id, n, s); !ok || e != api.OK && s.View <= newest {
			t.Errorf("%s: %d records of\n%s\ncan't be what lasts", what, i, shorten(tellWork(w)))
			return
		}
		if i == len(w.Save) && tellState(s) != tellState(after) {
			t.Errorf("%s: written is\n%s\nbut it is\n%s", what, shorten(tellState(s)), shorten(tellState(after)))
		}
	}
	if after.Commit < before.Commit || after.View < before.View || after.Normal < before.Normal {
		t.Errorf("%s: less than ahead of it: %s", what, shorten(tellState(after)))
	}
}

// wantSends: each message may be, and goes from this one to another.
func wantSends(t *testing.T, what string, n, id int, w view.Work) {
	t.Helper()
	for _, m := range w.Send {
		if !message.Right(m) || m.From != id || m.To == id || m.To < 0 || m.To >= n {
			t.Errorf("%s: it tells %s", what, shorten(tellMessage(m)))
		}
	}
}

// sends answers w without what it saves.
func sends(w view.Work) view.Work {
	w.Save = nil
	return w
}
