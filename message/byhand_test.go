package message_test

import (
	"fmt"
	"math/rand"
	"slices"
	"strings"
	"testing"

	"weighhouse/api"
	"weighhouse/message"
)

// plainFold is Fold by the chapter's words: the state of the records ahead of the last
// one, and then that one.
func plainFold(l []message.Record) (message.State, bool) {
	if len(l) == 0 {
		return message.State{}, true
	}
	s, ok := plainFold(l[:len(l)-1])
	if !ok {
		return message.State{}, false
	}
	return plainNext(s, l[len(l)-1])
}

func plainNext(s message.State, r message.Record) (message.State, bool) {
	wrong := !message.RightRecord(r)
	switch {
	case wrong:
	case r.Kind == message.Views:
		wrong = r.View < s.View || r.Normal > r.View
		s.View, s.Normal = r.View, r.Normal
	case r.Kind == message.Logs:
		wrong = r.Op > len(s.Log) || r.Op+len(r.Log) > api.MaxLog
		s.Log = slices.Concat(s.Log[:min(r.Op, len(s.Log))], r.Log)
	case r.Kind == message.Commits:
		wrong = r.Op > len(s.Log) || r.Op < s.Commit
		s.Commit = r.Op
	}
	if wrong {
		return message.State{}, false
	}
	return s, true
}

// mill makes records that mostly can stand behind those of s.
type mill struct {
	*rand.Rand
}

func newMill(seed int64) mill {
	return mill{rand.New(rand.NewSource(seed))}
}

func (m mill) record(s message.State) message.Record {
	switch m.Intn(3) {
	case 0:
		v := s.View + m.Intn(3)
		if m.Intn(40) == 0 {
			v = max(0, s.View-1)
		}
		normal := m.Intn(v + 1)
		if m.Intn(40) == 0 {
			normal = v + 1
		}
		return views(v, normal)
	case 1:
		keep := len(s.Log) - m.Intn(3)
		if m.Intn(40) == 0 {
			keep = len(s.Log) + 1
		}
		return logs(max(0, keep), m.entries()...)
	}
	op := s.Commit
	if n := len(s.Log) - s.Commit; n > 0 {
		op += m.Intn(n + 1)
	}
	if m.Intn(40) == 0 {
		op += m.Intn(5) - 2
	}
	r := commits(op)
	if m.Intn(60) == 0 {
		r.Log = m.entries()
	}
	return r
}

func (m mill) entries() []message.Entry {
	l := make([]message.Entry, m.Intn(4))
	for i := range l {
		l[i] = message.Entry{View: m.Intn(1 << m.Intn(41)), Data: strings.Repeat(fmt.Sprint(m.Intn(100)), m.Intn(4))}
	}
	return l
}

func (m mill) message() message.Message {
	x := message.Message{Kind: 1 + m.Intn(8), From: m.Intn(api.MaxID), To: m.Intn(api.MaxID)}
	for _, p := range messageNumbers(&x) {
		*p = m.Intn(1 << m.Intn(41))
	}
	if slices.Contains(kindsWithLog, x.Kind) {
		x.Log = m.entries()
	}
	return x
}

// row makes records one behind the other, each for the state of those ahead, and tells
// that state and each one on the way by plainNext.
func (m mill) row(n int) (l []message.Record, states []message.State) {
	s, ok := message.State{}, true
	states = append(states, s)
	for range n {
		r := m.record(s)
		l = append(l, r)
		if s, ok = plainNext(s, r); !ok {
			return l, states
		}
		states = append(states, s)
	}
	return l, states
}

func TestP1703ByHand(t *testing.T) {
	told, none := 0, 0
	for seed := range int64(2000) {
		l, _ := newMill(seed).row(40)
		s, ok := plainFold(l)
		wantFoldOr(t, fmt.Sprint(seed), l, s, ok)
		if ok {
			told++
		} else {
			none++
		}
	}
	if told < 100 || none < 100 {
		t.Error("only", told, none)
	}
}

// TestP1705Beginnings: what can be folded can be folded up to each record; what can't
// be can't with more behind it either.
func TestP1705Beginnings(t *testing.T) {
	for seed := range int64(500) {
		m := newMill(1705 + seed)
		l, states := m.row(60)
		for n := range len(l) + 1 {
			if n < len(states) {
				wantFold(t, fmt.Sprint(seed, " up to ", n), l[:n], states[n])
			} else {
				wantNoFold(t, fmt.Sprint(seed, " up to ", n), l[:n])
			}
		}
		if len(states) <= len(l) {
			for range 3 {
				l = append(l, m.record(states[len(states)-1]))
				wantNoFold(t, fmt.Sprint(seed, " and more"), l)
			}
		}
	}
}

// TestP1705LongestLog is the like of a log that comes to MaxLog.
func TestP1705LongestLog(t *testing.T) {
	l, full := oneByOne(api.MaxLog), many(api.MaxLog)
	for n := 0; n <= len(l); n += 101 {
		wantFold(t, fmt.Sprint(n), l[:n], message.State{Commit: n / 2, Log: full[:(n+1)/2]})
	}
}

// TestP1704ByHand: messages and records of all kinds of numbers.
func TestP1704ByHand(t *testing.T) {
	for seed := range int64(20) {
		m := newMill(seed)
		for range 200 {
			x := m.message()
			wantBytes(t, x, handMessage(x))
			r := message.Record{Kind: 1 + m.Intn(3), View: x.View, Normal: x.Normal, Op: x.Op}
			if r.Kind == message.Logs {
				r.Log = m.entries()
			}
			wantRecordBytes(t, r, handRecord(r))
		}
	}
}
