package view

import (
	"slices"

	"weighhouse/message"
)

// part is what a replica is. It embeds its state, which lasts; all the rest is gone
// behind a crash.
type part struct {
	state
	votes
	id, n  int
	normal bool  // else it changes
	joins  bool  // it changes, and waits for a NewState of its View
	count  int   // of ticks: of a backup since its primary's last word, else since it came to be what it is in its View
	match  []int // of each replica: how many of the log's first entries it told to have
}

// state is what lasts.
type state struct {
	view, last, commit int // last: the View in which it was normal last
	log                []message.Entry
}

// votes is what came for the change to its View.
type votes struct {
	starts []bool            // of each replica: whether it told a StartViewChange
	does   []message.Message // of each replica its DoViewChange; of Kind 0, if none came
	sent   bool              // whether it told a DoViewChange itself
}

// newPart answers one for which nothing matches, and nobody but itself did anything.
func newPart(id, n int, s state) *part {
	p := &part{state: s, id: id, n: n, normal: s.last == s.view, match: make([]int, n)}
	p.votes = p.newVotes()
	return p
}

// newVotes answers that nobody but itself told anything.
func (p *part) newVotes() votes {
	v := votes{starts: make([]bool, p.n), does: make([]message.Message, p.n)}
	v.starts[p.id] = true
	return v
}

// hears answers whether m may be told to it.
func (p *part) hears(m message.Message) bool {
	return message.Right(m) && m.To == p.id && m.From != p.id && m.From < p.n
}

func (p *part) primary() int {
	return Primary(p.view, p.n)
}

func (p *part) leads() bool {
	return p.normal && p.primary() == p.id
}

func (p *part) others() []int {
	var l []int
	for id := range p.n {
		if id != p.id {
			l = append(l, id)
		}
	}
	return l
}

func (p *part) isMoreThanHalf(count int) bool {
	return count > p.n/2
}

// matched answers how many entries more than half of all match.
func (p *part) matched() int {
	l := slices.Clone(p.match)
	l[p.id] = len(p.log)
	slices.Sort(l)
	return l[p.n/2]
}
