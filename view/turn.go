package view

import (
	"slices"

	"weighhouse/message"
)

// turn is a replica's part at one call, with the work that comes of it: what changes of
// its state is written in that.
type turn struct {
	*part
	Work
}

// tell sends a message to each of these, with a log of its own.
func (t *turn) tell(m message.Message, to ...int) {
	for _, id := range to {
		x := m
		x.From, x.To, x.View = t.id, id, t.view
		x.Log = slices.Clone(m.Log)
		t.Send = append(t.Send, x)
	}
}

// save writes records, one behind the other.
func (t *turn) save(l ...message.Record) {
	t.Save = append(t.Save, l...)
}

// relog lets the log's first entries stay, and puts others behind them. It is one
// record: behind a crash there is the log ahead of it, or the whole new one.
func (t *turn) relog(stay int, l ...message.Entry) {
	t.save(message.Record{Kind: message.Logs, Op: stay, Log: slices.Clone(l)})
	t.log = append(t.log[:stay], l...)
}

// fill puts what it lacks of the entries behind the first op ones at the log's end.
func (t *turn) fill(op int, l ...message.Entry) {
	if have := len(t.log); op+len(l) > have {
		t.relog(have, l[have-op:]...)
	}
}

// rise lets Commit rise to that, as far as there are entries.
func (t *turn) rise(commit int) {
	if commit = min(commit, len(t.log)); commit > t.commit {
		t.commit = commit
		t.save(message.Record{Kind: message.Commits, Op: commit})
	}
}

// saveViews writes View and Normal.
func (t *turn) saveViews() {
	t.save(message.Record{Kind: message.Views, View: t.view, Normal: t.last})
}

// enter makes View a greater one, in which it is not normal yet.
func (t *turn) enter(view int) {
	t.view = view
	t.normal, t.joins, t.count = false, false, 0
	t.votes = t.newVotes()
	t.saveViews()
}

// beNormal makes it normal in its View. Its log must be that View's ahead of it: a
// crash between the two would leave entries of an older View under the name of this one.
func (t *turn) beNormal() {
	t.last = t.view
	t.normal, t.joins, t.count = true, false, 0
	t.match = make([]int, t.n)
	t.votes = votes{}
	t.saveViews()
}
