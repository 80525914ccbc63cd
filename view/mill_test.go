package view_test

import (
	"fmt"
	"math"
	"math/rand"

	"weighhouse/api"
	"weighhouse/message"
	"weighhouse/view"
)

// mill makes states, messages and calls out of a seed.
type mill struct {
	*rand.Rand
}

func newMill(seed int64) mill {
	return mill{rand.New(rand.NewSource(seed))}
}

func (g mill) entries(most int) []message.Entry {
	var l []message.Entry
	for range g.Intn(most + 1) {
		v := g.Intn(6)
		l = append(l, message.Entry{View: v, Data: fmt.Sprint(string(rune('a'+g.Intn(26))), v)})
	}
	return l
}

func (g mill) state() message.State {
	s := message.State{View: g.Intn(6), Log: g.entries(6)}
	s.Normal = g.Intn(s.View + 1)
	if g.Intn(2) == 0 {
		s.Normal = s.View
	}
	s.Commit = g.Intn(len(s.Log) + 1)
	return s
}

// number is mostly one near to n.
func (g mill) number(n int) int {
	switch g.Intn(60) {
	case 0:
		return lastView - g.Intn(2)
	case 1:
		return []int{-1, lastView + 1, math.MaxInt, math.MinInt}[g.Intn(4)]
	}
	return max(0, n+g.Intn(5)-2)
}

// message makes one to a replica of that state, true or not.
func (g mill) message(s message.State, id, n int) message.Message {
	m := message.Message{Kind: 1 + g.Intn(8), To: id, From: g.Intn(n), View: s.View + g.Intn(2)}
	if g.Intn(20) == 0 {
		m.View = g.number(s.View)
	}
	if g.Intn(2) == 0 {
		m.From = view.Primary(m.View, n)
	}
	switch g.Intn(80) {
	case 0:
		m.To = g.number(n)
	case 1:
		m.From = g.number(n)
	case 2:
		m.Kind = g.number(4)
	}
	m.Op, m.Commit, m.Normal = g.number(len(s.Log)), g.number(s.Commit), g.number(s.Normal)
	if m.Kind == message.Prepare || m.Kind == message.DoViewChange || m.Kind == message.StartView || m.Kind == message.NewState {
		m.Log = g.entries(6)
		if g.Intn(2) == 0 && m.Kind > message.Prepare {
			m.Log = append(s.Log, m.Log...)
		}
		if g.Intn(200) == 0 {
			m.Log = many(api.MaxLog)
		}
	}
	return m
}

// call calls something of a replica.
func (g mill) call(r *view.Replica, id, n int) (view.Work, api.Errno) {
	switch g.Intn(10) {
	case 0:
		_, w, e := r.Request(fmt.Sprint(string(rune('a'+g.Intn(26))), r.State().View))
		return w, e
	case 1, 2:
		return r.Tick()
	}
	return r.Step(g.message(r.State(), id, n))
}
