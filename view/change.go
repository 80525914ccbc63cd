package view

import (
	"slices"

	"weighhouse/api"
	"weighhouse/message"
)

// change is a change to a greater View.
func (t *turn) change(view int) {
	t.enter(view)
	t.tellStart()
}

// tellStart tells all that it changes to its View. It counts itself: alone it is more
// than half.
func (t *turn) tellStart() {
	t.tell(message.Message{Kind: message.StartViewChange}, t.others()...)
	t.decide()
}

// decide tells a DoViewChange, once, where more than half change to its View.
func (t *turn) decide() {
	count := 0
	for _, told := range t.starts {
		if told {
			count++
		}
	}
	if t.isMoreThanHalf(count) && !t.sent {
		t.sent = true
		t.tellDo()
	}
}

// tellDo tells the View's primary what it has; what it tells itself is taken at once.
func (t *turn) tellDo() {
	m := message.Message{Kind: message.DoViewChange, From: t.id, Normal: t.last, Commit: t.commit, Log: t.log}
	if t.primary() != t.id {
		t.tell(m, t.primary())
		return
	}
	m.Log = slices.Clone(t.log)
	t.collect(m)
}

// collect counts a DoViewChange of its View, whose primary it is.
func (t *turn) collect(m message.Message) {
	t.does[m.From] = m
	count := 0
	for _, x := range t.does {
		if x.Kind != 0 {
			count++
		}
	}
	if t.isMoreThanHalf(count) {
		t.lead()
	}
}

// lead begins its View as the primary, with the best log of all that were counted.
func (t *turn) lead() {
	var best message.Message
	commit := 0
	for _, m := range t.does {
		if m.Kind != 0 && (best.Kind == 0 || isBetter(m, best)) {
			best = m
		}
		commit = max(commit, m.Commit)
	}
	if !t.mayBeLog(len(best.Log)) {
		return
	}
	t.relog(0, best.Log...)
	t.beNormal()
	t.rise(commit)
	t.tell(message.Message{Kind: message.StartView, Commit: t.commit, Log: t.log}, t.others()...)
}

// isBetter answers whether the log of a is better than that of b.
func isBetter(a, b message.Message) bool {
	if a.Normal != b.Normal {
		return a.Normal > b.Normal
	}
	return len(a.Log) > len(b.Log)
}

// mayBeLog answers whether its log may come to have so many entries. Replicas that do
// as they should never tell a log without what is committed, nor one that is too long;
// what others tell must not bring it to a state that can't be.
func (t *turn) mayBeLog(count int) bool {
	return t.commit <= count && count <= api.MaxLog
}
