package view_test

import (
	"fmt"
	"strings"
	"testing"

	"weighhouse/api"
	"weighhouse/message"
)

// TestP1805StartViewChange: of a greater View it changes to it, and counts the sender.
func TestP1805StartViewChange(t *testing.T) {
	story(t, "a backup of three", `
		replica 2 of 3 c1 [a0 b0]
		< StartViewChange 0>2 v1
		save Views v1
		> StartViewChange 2>0 v1
		> StartViewChange 2>1 v1
		> DoViewChange 2>1 v1 c1 [a0 b0]
		is v1 c1 [a0 b0] changes
	`)
	story(t, "a primary of three", `
		replica 0 of 3 c1 [a0 b0]
		< StartViewChange 2>0 v7
		save Views v7
		> StartViewChange 0>1 v7
		> StartViewChange 0>2 v7
		> DoViewChange 0>1 v7 c1 [a0 b0]
		request c7
		fails 51
		tick 1
		is v7 c1 [a0 b0] changes
	`)
	story(t, "one that changes already", `
		replica 0 of 3 v5 n3 [a3]
		< StartViewChange 1>0 v7
		save Views v7 n3
		> StartViewChange 0>1 v7
		> StartViewChange 0>2 v7
		> DoViewChange 0>1 v7 n3 [a3]
	`)
	story(t, "one that joins", `
		replica 0 of 3 [a0]
		< Commit 1>0 v1
		save Views v1
		> GetState 0>1 v1
		< StartViewChange 2>0 v1
		< StartViewChange 1>0 v1
		is v1 [a0] changes
		< StartViewChange 2>0 v2
		save Views v2
		> StartViewChange 0>1 v2
		> StartViewChange 0>2 v2
		> DoViewChange 0>2 v2 [a0]
	`)
}

// TestP1805Half: by just half nothing comes; by more than half a DoViewChange, once.
func TestP1805Half(t *testing.T) {
	story(t, "five", `
		replica 0 of 5 v6 n5 c1 [a0 b5]
		< StartViewChange 3>0 v6
		< StartViewChange 3>0 v6
		< StartViewChange 3>0 v6
		is v6 c1 n5 [a0 b5] changes
		< StartViewChange 1>0 v6
		> DoViewChange 0>1 v6 c1 n5 [a0 b5]
		< StartViewChange 1>0 v6
		< StartViewChange 2>0 v6
		< StartViewChange 4>0 v6
		is v6 c1 n5 [a0 b5] changes
	`)
	story(t, "five, of a greater View", `
		replica 4 of 5
		< StartViewChange 3>4 v3
		save Views v3
		> StartViewChange 4>0 v3
		> StartViewChange 4>1 v3
		> StartViewChange 4>2 v3
		> StartViewChange 4>3 v3
		< StartViewChange 0>4 v3
		> DoViewChange 4>3 v3
	`)
	story(t, "seven", `
		replica 0 of 7 v1
		< StartViewChange 3>0 v1
		< StartViewChange 4>0 v1
		< StartViewChange 3>0 v1
		< StartViewChange 6>0 v1
		> DoViewChange 0>1 v1
		< StartViewChange 5>0 v1
		< StartViewChange 1>0 v1
		< StartViewChange 2>0 v1
	`)
	story(t, "by oneself", `
		replica 0 of 3 v1
		tick 2
		> StartViewChange 0>1 v1
		> StartViewChange 0>2 v1
		is v1 changes
	`)
}

// TestP1805AnotherView: what was counted for one View does not count for the next one.
func TestP1805AnotherView(t *testing.T) {
	story(t, "StartViewChanges", `
		replica 0 of 5 v1
		< StartViewChange 3>0 v1
		< StartViewChange 2>0 v2
		save Views v2
		> StartViewChange 0>1 v2
		> StartViewChange 0>2 v2
		> StartViewChange 0>3 v2
		> StartViewChange 0>4 v2
		< StartViewChange 3>0 v1
		< StartViewChange 4>0 v1
		< StartViewChange 4>0 v2
		> DoViewChange 0>2 v2
		< StartViewChange 1>0 v3
		save Views v3
		> StartViewChange 0>1 v3
		> StartViewChange 0>2 v3
		> StartViewChange 0>3 v3
		> StartViewChange 0>4 v3
		tick 2
		> StartViewChange 0>1 v3
		> StartViewChange 0>2 v3
		> StartViewChange 0>3 v3
		> StartViewChange 0>4 v3
		< StartViewChange 2>0 v3
		> DoViewChange 0>3 v3
	`)
	story(t, "DoViewChanges", `
		replica 1 of 5 v1
		< DoViewChange 0>1 v1 [x0 y0 z0]
		< DoViewChange 2>1 v1
		< DoViewChange 0>1 v6
		save Views v6
		> StartViewChange 1>0 v6
		> StartViewChange 1>2 v6
		> StartViewChange 1>3 v6
		> StartViewChange 1>4 v6
		< DoViewChange 3>1 v6 [a0]
		< DoViewChange 4>1 v1
		is v6 changes
		< DoViewChange 2>1 v6
		save Logs [a0]
		save Views v6 n6
		> StartView 1>0 v6 [a0]
		> StartView 1>2 v6 [a0]
		> StartView 1>3 v6 [a0]
		> StartView 1>4 v6 [a0]
	`)
}

// TestP1805StartViewChangeNormal: where it is normal in that View it is passed over.
func TestP1805StartViewChangeNormal(t *testing.T) {
	for _, start := range []string{"replica 0 of 3 v3 n3", "replica 1 of 3 v3 n3"} {
		id := start[len("replica ")]
		for _, m := range []string{"< StartViewChange 2>%c v3", "< StartViewChange 2>%c v2", "< StartViewChange 2>%c"} {
			m = fmt.Sprintf(m, id)
			story(t, start, start+"\n"+m+"\n"+m+"\ntick 1")
		}
	}
}

// TestP1805DoViewChange: the View's primary counts them, its own, too.
func TestP1805DoViewChange(t *testing.T) {
	story(t, "its own first", `
		replica 1 of 3 c1 [a0]
		< StartViewChange 2>1 v1
		save Views v1
		> StartViewChange 1>0 v1
		> StartViewChange 1>2 v1
		is v1 c1 [a0] changes
		< DoViewChange 0>1 v1 [a0 b0]
		save Logs [a0 b0]
		save Views v1 n1
		> StartView 1>0 v1 c1 [a0 b0]
		> StartView 1>2 v1 c1 [a0 b0]
		is v1 c1 n1 [a0 b0] leads
	`)
	story(t, "its own last", `
		replica 1 of 3 c1 [a0]
		< DoViewChange 2>1 v1 c2 [a0 b0]
		save Views v1
		> StartViewChange 1>0 v1
		> StartViewChange 1>2 v1
		is v1 c1 [a0] changes
		< StartViewChange 2>1 v1
		save Logs [a0 b0]
		save Views v1 n1
		save Commits op2
		> StartView 1>0 v1 c2 [a0 b0]
		> StartView 1>2 v1 c2 [a0 b0]
		is v1 c2 n1 [a0 b0] leads
	`)
	story(t, "those of others alone", `
		replica 1 of 3
		< DoViewChange 2>1 v1
		save Views v1
		> StartViewChange 1>0 v1
		> StartViewChange 1>2 v1
		< DoViewChange 0>1 v1
		save Logs
		save Views v1 n1
		> StartView 1>0 v1
		> StartView 1>2 v1
	`)
	story(t, "at once behind a patience", `
		replica 1 of 3 [a0]
		tick 10
		save Views v1
		> StartViewChange 1>0 v1
		> StartViewChange 1>2 v1
		< StartViewChange 2>1 v1
		< DoViewChange 2>1 v1
		save Logs [a0]
		save Views v1 n1
		> StartView 1>0 v1 [a0]
		> StartView 1>2 v1 [a0]
		request b1
		save Logs op1 [b1]
		> Prepare 1>0 v1 op1 [b1]
		> Prepare 1>2 v1 op1 [b1]
	`)
}

// TestP1805DoViewChangeHalf: by just half, and by one that is doubled, it does not lead.
func TestP1805DoViewChangeHalf(t *testing.T) {
	story(t, "five", `
		replica 3 of 5 v3
		< DoViewChange 0>3 v3
		< DoViewChange 0>3 v3
		< DoViewChange 0>3 v3
		< DoViewChange 1>3 v3
		< DoViewChange 0>3 v3
		< DoViewChange 1>3 v3
		is v3 changes
		< StartViewChange 1>3 v3
		is v3 changes
		< StartViewChange 2>3 v3
		save Logs
		save Views v3 n3
		> StartView 3>0 v3
		> StartView 3>1 v3
		> StartView 3>2 v3
		> StartView 3>4 v3
		< DoViewChange 4>3 v3
		< DoViewChange 4>3 v3 n2 [a0 b0]
		< StartViewChange 4>3 v3
		is v3 n3 leads
	`)
	story(t, "seven", `
		replica 0 of 7 v7 n6
		< DoViewChange 1>0 v7 n6
		< DoViewChange 2>0 v7 n6
		< DoViewChange 3>0 v7 n6
		< DoViewChange 1>0 v7 n6
		is v7 n6 changes
		< DoViewChange 4>0 v7 n6
		save Logs
		save Views v7 n7
		> StartView 0>1 v7
		> StartView 0>2 v7
		> StartView 0>3 v7
		> StartView 0>4 v7
		> StartView 0>5 v7
		> StartView 0>6 v7
	`)
}

// TestP1805NotItsPrimary: one that is not the View's primary changes to a greater one,
// but counts none.
func TestP1805NotItsPrimary(t *testing.T) {
	story(t, "a greater View", `
		replica 0 of 3
		< DoViewChange 1>0 v2 n1 [a1]
		save Views v2
		> StartViewChange 0>1 v2
		> StartViewChange 0>2 v2
		< DoViewChange 2>0 v2 n1 [a1]
		< DoViewChange 1>0 v2 n1 [a1]
		is v2 changes
	`)
	story(t, "its View", `
		replica 0 of 3 v2
		< DoViewChange 1>0 v2
		< DoViewChange 2>0 v2
		is v2 changes
	`)
}

// TestP1805BestLog: the log of the greatest Normal, of these the longest one; Commit the
// greatest of all.
func TestP1805BestLog(t *testing.T) {
	lead := func(own, log string, dos ...string) {
		t.Helper()
		l := strings.Fields(log)
		at := 0
		for l[at][0] != '[' {
			at++
		}
		save := "\nsave Logs " + strings.Join(l[at:], " ") + "\nsave Views v9 n9"
		if commit := strings.Join(l[:at], ""); !strings.Contains(own, commit+" ") {
			save += "\nsave Commits op" + commit[1:]
		}
		for _, id := range []int{0, 1, 2, 3} {
			save += fmt.Sprintf("\n> StartView 4>%d v9 %s", id, log)
		}
		text := "replica 4 of 5 v9 " + own + "\n< StartViewChange 0>4 v9\n< StartViewChange 1>4 v9"
		for i, m := range dos {
			text += fmt.Sprintf("\n< DoViewChange %d>4 v9 %s", []int{2, 0, 1}[i], m)
		}
		story(t, own+" with "+strings.Join(dos, " and "), text+save)
	}
	lead("n3 c1 [a0 b3]", "c1 [a0 b3]", "n3 c1 [a0]", "n2 c1 [a0 b2 c2 d2]")
	lead("n3 c1 [a0 b3]", "c1 [a0 b3 c3]", "n3 c1 [a0 b3 c3]", "n3 c1 [a0]")
	lead("n3 c1 [a0 b3]", "c1 [a0 b3 c3]", "n3 c1 [a0]", "n3 c1 [a0 b3 c3]")
	lead("n3 c1 [a0 b3]", "c1 [a0]", "n4 c1 [a0]", "n3 c1 [a0 b3 c3]")
	lead("n3 c1 [a0 b3]", "c1 [a0]", "n3 c1 [a0 b3 c3]", "n4 c1 [a0]")
	lead("n3 c1 [a0 b3]", "c2 [a0 c4]", "n4 c1 [a0 c4]", "n2 c2 [a0 c4 x2]")
	lead("n7 c1 [a0 b3]", "c2 [a0 b3]", "n4 c2 [a0 b3]", "n2 [a0 c4 x2]")
	lead("n3 c2 [a0 b3]", "c2 [a0 b3 c7]", "n7 [a0 b3 c7]", "n3 c1 [a0 b3]")
	// as far as there are entries
	lead("n3 c1 [a0 b3]", "c3 [a0 b3 c3]", "n3 c9 [a0 b3 c3]", "n3 c1 [a0]")
	// of logs that are equally good that of the least id
	lead("n3 c1 [a0 b3]", "c1 [a0 x3]", "n3 c1 [a0 y3]", "n3 c1 [a0 x3]")
	lead("n3 c1 [a0 b3]", "c1 [a0 x3]", "n3 c1 [a0 x3]", "n2 c1 [a0 y3]")
}

// TestP1805WrongLog: a log without what it knows to be committed makes no View.
func TestP1805WrongLog(t *testing.T) {
	r := story(t, "too short", `
		replica 1 of 3 v1 c2 [a0 b0]
		< StartViewChange 0>1 v1
		< DoViewChange 2>1 v1 n1 [a0]
		is v1 c2 [a0 b0] changes
		< DoViewChange 0>1 v1 n1 c2
		is v1 c2 [a0 b0] changes
		< DoViewChange 0>1 v1 n1 c2 [a0 b0]
		save Logs [a0 b0]
		save Views v1 n1
		> StartView 1>0 v1 c2 [a0 b0]
		> StartView 1>2 v1 c2 [a0 b0]
	`)
	if s := r.State(); len(s.Log) != 2 {
		t.Error(tellState(s))
	}
}

// TestP1805Alone: one that is alone comes to lead by itself.
func TestP1805Alone(t *testing.T) {
	r := mustNew(t, 0, 1, readState("v4 n2 c1 [a0 b2]"))
	for range 10 {
		before := r.State()
		w, e := r.Tick()
		if e != api.OK || len(w.Send) > 0 {
			t.Error(tellWork(w), e)
		}
		wantLasting(t, "alone", 1, 0, before, w, r.State())
	}
	if s := r.State(); !r.Leads() || s.Normal != s.View || s.View < 4 || len(s.Log) != 2 {
		t.Error(tellStatus(r))
	}
	for range 2 {
		r.Tick()
	}
	if s := r.State(); s.Commit != 2 {
		t.Error(tellStatus(r))
	}
}

// TestP1805LongestLogs: of MaxLog entries.
func TestP1805LongestLogs(t *testing.T) {
	full := many(api.MaxLog)
	r := mustNew(t, 1, 3, message.State{View: 1})
	r.Step(message.Message{Kind: message.StartViewChange, From: 0, To: 1, View: 1})
	w, e := r.Step(message.Message{Kind: message.DoViewChange, From: 0, To: 1, View: 1, Commit: api.MaxLog, Log: full})
	if s := r.State(); e != api.OK || !r.Leads() || s.Commit != api.MaxLog || len(s.Log) != api.MaxLog || len(w.Send) != 2 || len(w.Send[1].Log) != api.MaxLog {
		t.Error("it does not lead", e)
	}
	b := mustNew(t, 2, 3, message.State{})
	if w, e := b.Step(w.Send[1]); e != api.OK || tellWork(sends(w)) != "> PrepareOk 2>1 v1 op2048" || len(b.State().Log) != api.MaxLog || !b.Normal() {
		t.Error(shorten(tellWork(w)), e)
	}
}
