package view

import (
	"weighhouse/api"
	"weighhouse/message"
)

// step takes a message of its View, or of a greater one.
func (t *turn) step(m message.Message) {
	if t.normal && m.View == t.view && m.From == t.primary() {
		t.count = 0
	}
	switch m.Kind {
	case message.StartViewChange:
		t.stepStartViewChange(m)
	case message.DoViewChange:
		t.stepDoViewChange(m)
	case message.StartView, message.Prepare, message.Commit:
		if m.From == Primary(m.View, t.n) {
			t.stepPrimary(m)
		}
	default:
		// These answer what it told in its View: of a greater one none can be true.
		if m.View == t.view {
			t.stepAnswer(m)
		}
	}
}

func (t *turn) stepStartViewChange(m message.Message) {
	if m.View > t.view {
		t.change(m.View)
	}
	if !t.normal && !t.joins {
		t.starts[m.From] = true
		t.decide()
	}
}

func (t *turn) stepDoViewChange(m message.Message) {
	if m.View > t.view {
		t.change(m.View)
	}
	if !t.normal && t.primary() == t.id {
		t.collect(m)
	}
}

// stepPrimary takes what the message's View's primary tells all.
func (t *turn) stepPrimary(m message.Message) {
	isThere := t.normal && m.View == t.view
	switch {
	case m.Kind == message.StartView && isThere:
		t.tellOk()
	case m.Kind == message.StartView:
		t.stepStartView(m)
	case !isThere:
		t.join(m.View)
	case m.Kind == message.Prepare:
		t.stepPrepare(m)
	default:
		t.stepCommit(m)
	}
}

// stepStartView makes it a backup of a View that it is not normal in.
func (t *turn) stepStartView(m message.Message) {
	if !t.mayBeLog(len(m.Log)) {
		return
	}
	if m.View > t.view {
		t.enter(m.View)
	}
	t.relog(0, m.Log...)
	t.beNormal()
	t.rise(m.Commit)
	t.tellOk()
}

// join makes it wait for a NewState of a View that began without it.
func (t *turn) join(view int) {
	if view > t.view {
		t.enter(view)
	}
	t.joins = true
	t.askPrimary(t.commit)
}

func (t *turn) stepPrepare(m message.Message) {
	switch {
	case m.Op > len(t.log):
		t.askPrimary(len(t.log))
	case m.Op+len(m.Log) <= api.MaxLog:
		t.fill(m.Op, m.Log...)
		t.tellOk()
	}
	t.rise(m.Commit)
}

func (t *turn) stepCommit(m message.Message) {
	if m.Commit > len(t.log) {
		t.askPrimary(len(t.log))
	}
	t.rise(m.Commit)
}

// stepAnswer takes what another one of its View tells it alone.
func (t *turn) stepAnswer(m message.Message) {
	switch {
	case m.Kind == message.PrepareOk && t.leads():
		t.match[m.From] = max(t.match[m.From], min(m.Op, len(t.log)))
		t.rise(t.matched())
	case m.Kind == message.GetState && t.normal && m.Op <= len(t.log):
		t.tell(message.Message{Kind: message.NewState, Op: m.Op, Commit: t.commit, Log: t.log[m.Op:]}, m.From)
	case m.Kind == message.NewState && !t.leads():
		t.stepNewState(m)
	}
}

// stepNewState takes what lies behind Op. A primary is not told any: its log is the
// View's, and it lacks nothing.
func (t *turn) stepNewState(m message.Message) {
	end := m.Op + len(m.Log)
	switch {
	case t.joins && m.Op <= t.commit && t.mayBeLog(end):
		t.relog(m.Op, m.Log...)
		t.beNormal()
	case t.normal && m.Op <= len(t.log) && end <= api.MaxLog:
		t.fill(m.Op, m.Log...)
	default:
		return
	}
	t.tellOk()
	t.rise(m.Commit)
}

// tellOk tells the primary how many entries it has.
func (t *turn) tellOk() {
	t.tell(message.Message{Kind: message.PrepareOk, Op: len(t.log)}, t.primary())
}

// askPrimary asks for what lies behind the first op entries.
func (t *turn) askPrimary(op int) {
	t.tell(message.Message{Kind: message.GetState, Op: op}, t.primary())
}
