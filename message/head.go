package message

import (
	"slices"

	"weighhouse/api"
)

const (
	maxNumber = 1 << 40
	maxData   = 16384
)

// head is what messages and records have in common. They have it as plain fields,
// as the chapter lists them; inside they are letters and notes, which embed it.
type head struct {
	kind, view, normal, op int
	log                    []Entry
}

// letter is a Message inside.
type letter struct {
	head
	from, to, commit int
}

// note is a Record inside.
type note struct {
	head
}

func letterOf(m Message) letter {
	return letter{head{m.Kind, m.View, m.Normal, m.Op, m.Log}, m.From, m.To, m.Commit}
}

func noteOf(r Record) note {
	return note{head{r.Kind, r.View, r.Normal, r.Op, r.Log}}
}

func (x letter) message() Message {
	return Message{
		Kind: x.kind, From: x.from, To: x.to,
		View: x.view, Op: x.op, Commit: x.commit, Normal: x.normal,
		Log: x.log,
	}
}

func (x note) record() Record {
	return Record{Kind: x.kind, View: x.view, Normal: x.normal, Op: x.op, Log: x.log}
}

func (x letter) right() bool {
	return x.rightHead(NewState, Prepare, DoViewChange, StartView, NewState) &&
		allWithin(0, api.MaxID-1, x.from, x.to) &&
		allWithin(0, maxNumber, x.commit)
}

func (x note) right() bool {
	return x.rightHead(Commits, Logs)
}

// rightHead answers whether the head may be where the kinds go from 1 to most, and
// only those of withLog may have a log.
func (h head) rightHead(most int, withLog ...int) bool {
	return allWithin(1, most, h.kind) &&
		allWithin(0, maxNumber, h.view, h.normal, h.op) &&
		(len(h.log) == 0 || slices.Contains(withLog, h.kind)) &&
		rightLog(h.log...)
}

// rightLog looks at the length ahead of the entries, so that a long list is not
// gone through.
func rightLog(l ...Entry) bool {
	if len(l) > api.MaxLog {
		return false
	}
	for _, x := range l {
		if !allWithin(0, maxNumber, x.View) || len(x.Data) > maxData {
			return false
		}
	}
	return true
}

func allWithin(least, most int, l ...int) bool {
	for _, n := range l {
		if n < least || n > most {
			return false
		}
	}
	return true
}
