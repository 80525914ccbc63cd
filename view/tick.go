package view

import "weighhouse/message"

// lastView is the greatest View that a message may have: there is none behind it.
const lastView = 1 << 40

func (t *turn) request(data string) {
	op := len(t.log)
	t.relog(op, message.Entry{View: t.view, Data: data})
	t.prepare(op, t.others()...)
	t.rise(t.matched()) // of one replica this is all that it has
}

// prepare tells these all entries behind the first op ones.
func (t *turn) prepare(op int, to ...int) {
	t.tell(message.Message{Kind: message.Prepare, Op: op, Commit: t.commit, Log: t.log[op:]}, to...)
}

func (t *turn) tick() {
	t.count++
	beats := t.count%Beat == 0
	switch {
	case t.leads():
		if beats {
			t.beat()
		}
	case t.count >= Patience && t.view < lastView:
		t.change(t.view + 1)
	case !t.normal && beats:
		t.again()
	}
}

// beat tells all where the primary is.
func (t *turn) beat() {
	for _, id := range t.others() {
		if t.match[id] < len(t.log) {
			t.prepare(t.match[id], id)
		} else {
			t.tell(message.Message{Kind: message.Commit, Commit: t.commit}, id)
		}
	}
	t.rise(t.matched())
}

// again tells what one that changes told already.
func (t *turn) again() {
	if t.joins {
		t.askPrimary(t.commit)
		return
	}
	sent := t.sent
	t.tellStart()
	if sent {
		t.tellDo()
	}
}
