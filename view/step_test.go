package view_test

import (
	"fmt"
	"math"
	"strings"
	"testing"

	"weighhouse/api"
	"weighhouse/message"
	"weighhouse/view"
)

// TestP1805WrongMessages: nothing changes by one that may not be, or is not to it, or is
// from itself or none.
func TestP1805WrongMessages(t *testing.T) {
	long := []message.Entry{{Data: strings.Repeat("d", longest+1)}}
	for what, f := range map[string]func(m *message.Message){
		"no Kind":            func(m *message.Message) { m.Kind = 0 },
		"a Kind of 9":        func(m *message.Message) { m.Kind = 9 },
		"a Kind below 0":     func(m *message.Message) { m.Kind = -1 },
		"not to it":          func(m *message.Message) { m.To = 2 },
		"to the sender":      func(m *message.Message) { m.To = 0 },
		"to none of them":    func(m *message.Message) { m.To = 3 },
		"to one below 0":     func(m *message.Message) { m.To = -1 },
		"to a huge one":      func(m *message.Message) { m.To = math.MaxInt },
		"from itself":        func(m *message.Message) { m.From = 1 },
		"from none of them":  func(m *message.Message) { m.From = 3 },
		"from the last id":   func(m *message.Message) { m.From = api.MaxID - 1 },
		"from one past it":   func(m *message.Message) { m.From = api.MaxID },
		"from one below 0":   func(m *message.Message) { m.From = -1 },
		"a View below 0":     func(m *message.Message) { m.View = -1 },
		"too great a View":   func(m *message.Message) { m.View = lastView + 1 },
		"an Op below 0":      func(m *message.Message) { m.Op = -1 },
		"too great an Op":    func(m *message.Message) { m.Op = lastView + 1 },
		"a Commit below 0":   func(m *message.Message) { m.Commit = -1 },
		"too great a Commit": func(m *message.Message) { m.Commit = math.MaxInt },
		"a Normal below 0":   func(m *message.Message) { m.Normal = math.MinInt },
		"too great a Normal": func(m *message.Message) { m.Normal = lastView + 1 },
		"too many entries":   func(m *message.Message) { m.Log = many(api.MaxLog + 1) },
		"too long an entry":  func(m *message.Message) { m.Log = long },
	} {
		for kind := message.Prepare; kind <= message.NewState; kind++ {
			for _, v := range []int{0, 2, 3, 4, 6} {
				for _, start := range []string{"v3 n3 [a0]", "v3 n2 [a0]"} {
					r := mustNew(t, 1, 3, readState(start))
					m := message.Message{Kind: kind, From: 0, To: 1, View: v}
					f(&m)
					wantRefused(t, what, r, m)
				}
			}
		}
	}
	for _, kind := range []int{message.PrepareOk, message.Commit, message.StartViewChange, message.GetState} {
		wantRefused(t, "a log", mustNew(t, 1, 3, message.State{}), message.Message{Kind: kind, From: 0, To: 1, Log: many(1)})
	}
	wantRefused(t, "one alone", mustNew(t, 0, 1, message.State{}), message.Message{Kind: message.StartViewChange, From: 1, View: 4})
	wantRefused(t, "one alone, from itself", mustNew(t, 0, 1, message.State{View: 1}), message.Message{Kind: message.DoViewChange, View: 1})
	wantRefused(t, "the sixth of five", mustNew(t, 0, 5, message.State{}), message.Message{Kind: message.StartViewChange, From: 5, View: 4})
}

// TestP1805EightPeers: of seven the last one is heard, and the one behind it is not.
func TestP1805EightPeers(t *testing.T) {
	r := mustNew(t, 0, 7, message.State{})
	wantRefused(t, "the eighth of seven", r, message.Message{Kind: message.StartViewChange, From: 7, View: 4})
	if _, e := r.Step(message.Message{Kind: message.StartViewChange, From: 6, View: 4}); e != api.OK || r.Normal() {
		t.Error("the seventh", e)
	}
}

// TestP1805LesserView: it is passed over, whatever it says, and whoever hears it.
func TestP1805LesserView(t *testing.T) {
	for _, start := range []string{"0 of 3 v3 c1 n3 [a0 b1]", "1 of 3 v3 c1 n3 [a0 b1]", "0 of 3 v3 c1 n2 [a0 b1]", "1 of 3 v3 c1 n2 [a0 b1]"} {
		id := start[0]
		for _, from := range []int{0, 1, 2} {
			if from == int(id-'0') {
				continue
			}
			for _, kind := range messageKinds[1:] {
				for _, v := range []string{"", "v1", "v2"} {
					for _, rest := range []string{"", "op1 c1", "op2 c2", "op3 c3 n2"} {
						m := fmt.Sprintf("%s %d>%c %s %s", kind, from, id, v, rest)
						story(t, start, "replica "+start+"\n< "+m+"\nis"+start[len("0 of 3"):]+" "+kindOf(start))
					}
				}
			}
		}
	}
}

// kindOf tells what the replica of such a beginning is, in View 3.
func kindOf(start string) string {
	switch {
	case strings.Contains(start, "n2"):
		return "changes"
	case start[0] == '0':
		return "leads"
	}
	return "follows"
}

// TestP1805NotThePrimary: what only a View's primary may tell is passed over from others.
func TestP1805NotThePrimary(t *testing.T) {
	for _, start := range []string{"1 of 3 v3 c1 n3 [a0 b1]", "1 of 3 v3 c1 n2 [a0 b1]", "0 of 3 v3 c1 n3 [a0 b1]"} {
		id := start[0]
		for _, kind := range []string{"StartView", "Prepare", "Commit"} {
			for _, rest := range []string{"v3 op2 c2", "v4 op2 c2", "v6", "v7 c2", "v9 c1", "v10"} {
				m := fmt.Sprintf("%s 2>%c %s", kind, id, rest)
				story(t, start, "replica "+start+"\n< "+m+"\nis"+start[len("0 of 3"):]+" "+kindOf(start))
			}
		}
	}
}

func TestP1805StartView(t *testing.T) {
	story(t, "a greater View", `
		replica 2 of 3 v3 n3 c1 [a0 b3 c3]
		< StartView 1>2 v4 c2 [a0 d3]
		save Views v4 n3
		save Logs [a0 d3]
		save Views v4 n4
		save Commits op2
		> PrepareOk 2>1 v4 op2
		is v4 c2 n4 [a0 d3] follows
	`)
	story(t, "a greater View, at a primary", `
		replica 0 of 3 c1 [a0 b0]
		< StartView 2>0 v5 c1 [a0]
		save Views v5
		save Logs [a0]
		save Views v5 n5
		> PrepareOk 0>2 v5 op1
		request c5
		fails 51
		is v5 c1 n5 [a0] follows
	`)
	story(t, "its View, where it changes", `
		replica 2 of 3 v4 n2 c1 [a0 b2]
		< StartView 1>2 v4 c1 [a0 b2 c3]
		save Logs [a0 b2 c3]
		save Views v4 n4
		> PrepareOk 2>1 v4 op3
		is v4 c1 n4 [a0 b2 c3] follows
	`)
	story(t, "its View, where it told a DoViewChange", `
		replica 2 of 3
		< StartViewChange 0>2 v1
		save Views v1
		> StartViewChange 2>0 v1
		> StartViewChange 2>1 v1
		> DoViewChange 2>1 v1
		< StartView 1>2 v1 [a0]
		save Logs [a0]
		save Views v1 n1
		> PrepareOk 2>1 v1 op1
		< StartViewChange 0>2 v1
		is v1 n1 [a0] follows
	`)
	story(t, "its View, which it joins", `
		replica 2 of 3 c1 [a0 x0]
		< Commit 1>2 v1 c2
		save Views v1
		> GetState 2>1 v1 op1
		< StartView 1>2 v1 c1 [a0 b0]
		save Logs [a0 b0]
		save Views v1 n1
		> PrepareOk 2>1 v1 op2
		tick 2
		is v1 c1 n1 [a0 b0] follows
	`)
	story(t, "its View, where it is normal", `
		replica 2 of 3 v1 n1 c1 [a0 b1]
		< StartView 1>2 v1 c2 [a0]
		> PrepareOk 2>1 v1 op2
		< StartView 1>2 v1 c2
		> PrepareOk 2>1 v1 op2
		is v1 c1 n1 [a0 b1] follows
	`)
	story(t, "Commit, as far as there are entries", `
		replica 2 of 3
		< StartView 1>2 v1 c7 [a0 b0]
		save Views v1
		save Logs [a0 b0]
		save Views v1 n1
		save Commits op2
		> PrepareOk 2>1 v1 op2
	`)
}

// TestP1805StartViewTooShort: a log without what it knows to be committed is none of a
// true primary.
func TestP1805StartViewTooShort(t *testing.T) {
	story(t, "a greater View", `
		replica 2 of 3 c2 [a0 b0 c0]
		< StartView 1>2 v1 c1 [a0]
		< StartView 1>2 v1 c2
		is c2 [a0 b0 c0] follows
		< StartView 1>2 v1 [a0 b0]
		save Views v1
		save Logs [a0 b0]
		save Views v1 n1
		> PrepareOk 2>1 v1 op2
	`)
}

func TestP1805Prepare(t *testing.T) {
	story(t, "one behind the other", `
		replica 1 of 3
		< Prepare 0>1 [a0]
		save Logs [a0]
		> PrepareOk 1>0 op1
		< Prepare 0>1 op1 c1 [b0]
		save Logs op1 [b0]
		save Commits op1
		> PrepareOk 1>0 op2
		is c1 [a0 b0] follows
	`)
	story(t, "what it lacks, and no more", `
		replica 1 of 5 v5 n5 c1 [a0 b5]
		< Prepare 0>1 v5 c1 [a0 b5 c5 d5]
		save Logs op2 [c5 d5]
		> PrepareOk 1>0 v5 op4
		< Prepare 0>1 v5 op1 c1 [b5]
		> PrepareOk 1>0 v5 op4
		< Prepare 0>1 v5 op2 c2 [c5 d5]
		save Commits op2
		> PrepareOk 1>0 v5 op4
		< Prepare 0>1 v5 op4 c9
		save Commits op4
		> PrepareOk 1>0 v5 op4
		< Prepare 0>1 v5 op3 c1 [d5 e5]
		save Logs op4 [e5]
		> PrepareOk 1>0 v5 op5
		is v5 c4 n5 [a0 b5 c5 d5 e5] follows
	`)
	story(t, "doubled", `
		replica 2 of 3
		< Prepare 0>2 [a0]
		save Logs [a0]
		> PrepareOk 2>0 op1
		< Prepare 0>2 [a0]
		> PrepareOk 2>0 op1
	`)
	story(t, "one that it can't put behind", `
		replica 1 of 3 [a0]
		< Prepare 0>1 op2 c2 [c0]
		save Commits op1
		> GetState 1>0 op1
		< Prepare 0>1 op7 [c0]
		> GetState 1>0 op1
		is c1 [a0] follows
	`)
}

// TestP1805PrepareTooMuch: a log does not come to more than MaxLog entries.
func TestP1805PrepareTooMuch(t *testing.T) {
	full := many(api.MaxLog)
	r := mustNew(t, 1, 3, message.State{Log: full[:api.MaxLog-1]})
	for _, m := range []message.Message{
		{Kind: message.Prepare, To: 1, Op: api.MaxLog - 1, Log: many(2)},
		{Kind: message.Prepare, To: 1, Op: 1, Log: full},
		{Kind: message.NewState, To: 1, Op: api.MaxLog - 1, Log: many(2)},
		{Kind: message.NewState, To: 1, Op: 1, Log: full},
	} {
		before := r.State()
		w, e := r.Step(m)
		if e != api.OK || tellWork(w) != "" || len(r.State().Log) != api.MaxLog-1 {
			t.Error(shorten(tellWork(w)), e)
		}
		wantLasting(t, "too much", 3, 1, before, w, r.State())
	}
	w, e := r.Step(message.Message{Kind: message.Prepare, To: 1, Op: api.MaxLog - 1, Log: many(1)})
	if s := r.State(); e != api.OK || tellWork(w) != "save Logs op2047 [e0(0)]\n> PrepareOk 1>0 op2048" && tellWork(w) != "save Logs op2047 [e0]\n> PrepareOk 1>0 op2048" || len(s.Log) != api.MaxLog {
		t.Error(shorten(tellWork(w)), e)
	}
	w, e = r.Step(message.Message{Kind: message.Prepare, To: 1, Log: full, Commit: api.MaxLog})
	if e != api.OK || tellWork(w) != "save Commits op2048\n> PrepareOk 1>0 op2048" {
		t.Error(shorten(tellWork(w)), e)
	}
}

func TestP1805Commit(t *testing.T) {
	story(t, "as far as it has entries", `
		replica 1 of 3 v3 n3 [a0 b3]
		< Commit 0>1 v3
		< Commit 0>1 v3 c1
		save Commits op1
		< Commit 0>1 v3 c1
		< Commit 0>1 v3
		is v3 c1 n3 [a0 b3] follows
		< Commit 0>1 v3 c2
		save Commits op2
		< Commit 0>1 v3 c3
		> GetState 1>0 v3 op2
		< Commit 0>1 v3 op9 c1
		is v3 c2 n3 [a0 b3] follows
	`)
	story(t, "with none", `
		replica 1 of 3
		< Commit 0>1 c1
		> GetState 1>0
		is follows
	`)
}

// TestP1805Joins: by a Prepare or a Commit of a greater View, or of its own where it
// changes.
func TestP1805Joins(t *testing.T) {
	for _, word := range []string{"Prepare 1>2 v4", "Prepare 1>2 v4 op1 [b4]", "Prepare 1>2 v4 op9 c7 [b4]", "Commit 1>2 v4", "Commit 1>2 v4 c9"} {
		story(t, "a greater View", `
			replica 2 of 3 c1 [a0 b0]
			< `+word+`
			save Views v4
			> GetState 2>1 v4 op1
			is v4 c1 [a0 b0] changes
			< `+word+`
			> GetState 2>1 v4 op1
			is v4 c1 [a0 b0] changes
		`)
		story(t, "its View, where it changes", `
			replica 2 of 3 v4 n2 c1 [a0 b0]
			< `+word+`
			> GetState 2>1 v4 op1
			is v4 c1 n2 [a0 b0] changes
		`)
		story(t, "one that joined another View", `
			replica 2 of 3 [a0]
			< Commit 0>2 v3
			save Views v3
			> GetState 2>0 v3
			< `+word+`
			save Views v4
			> GetState 2>1 v4
		`)
	}
	story(t, "a primary", `
		replica 0 of 3 c1 [a0 b0]
		< Commit 2>0 v5
		save Views v5
		> GetState 0>2 v5 op1
		is v5 c1 [a0 b0] changes
	`)
	story(t, "by the primary's log", `
		replica 2 of 3 v2 n2 c1 [a0 b2 c2]
		< Prepare 1>2 v4 op5 c3 [f4]
		save Views v4 n2
		> GetState 2>1 v4 op1
		< NewState 1>2 v4 op1 c3 [d3 e3 f4]
		save Logs op1 [d3 e3 f4]
		save Views v4 n4
		save Commits op3
		> PrepareOk 2>1 v4 op4
		is v4 c3 n4 [a0 d3 e3 f4] follows
		< NewState 1>2 v4 op1 c3 [d3 e3 f4]
		> PrepareOk 2>1 v4 op4
	`)
}

func TestP1805PrepareOk(t *testing.T) {
	story(t, "three", `
		replica 0 of 3 [a0 b0 c0]
		< PrepareOk 1>0
		< PrepareOk 1>0 op1
		save Commits op1
		< PrepareOk 1>0 op1
		< PrepareOk 2>0 op3
		save Commits op3
		< PrepareOk 1>0 op2
		is c3 [a0 b0 c0] leads
	`)
	story(t, "five: more than half", `
		replica 0 of 5 [a0 b0 c0]
		< PrepareOk 1>0 op3
		< PrepareOk 1>0 op3
		is [a0 b0 c0] leads
		< PrepareOk 2>0 op1
		save Commits op1
		< PrepareOk 3>0 op2
		save Commits op2
		< PrepareOk 4>0 op3
		save Commits op3
	`)
	story(t, "seven: more than half", `
		replica 0 of 7 [a0 b0 c0]
		< PrepareOk 1>0 op3
		< PrepareOk 4>0 op2
		< PrepareOk 6>0 op1
		save Commits op1
		< PrepareOk 5>0 op3
		save Commits op2
	`)
	story(t, "as far as it has entries, and never less", `
		replica 0 of 3 [a0 b0]
		< PrepareOk 1>0 op9
		save Commits op2
		< PrepareOk 1>0 op1
		tick 2
		> Commit 0>1 c2
		> Prepare 0>2 c2 [a0 b0]
		request c0
		save Logs op2 [c0]
		> Prepare 0>1 op2 c2 [c0]
		> Prepare 0>2 op2 c2 [c0]
		tick 2
		> Prepare 0>1 op2 c2 [c0]
		> Prepare 0>2 c2 [a0 b0 c0]
	`)
	story(t, "Commit never less, by what nobody told yet", `
		replica 0 of 3 c2 [a0 b0 c0]
		< PrepareOk 1>0 op1
		is c2 [a0 b0 c0] leads
		< PrepareOk 1>0 op3
		save Commits op3
	`)
	for _, start := range []string{"1 of 3 v3 n3 [a0]", "1 of 3 v4 n3 [a0]", "0 of 3 v3 n2 [a0]"} {
		story(t, "one that does not lead", "replica "+start+"\n< PrepareOk 2>"+start[:1]+" v4 op1\n< PrepareOk 2>"+start[:1]+" v3 op1")
	}
}

// TestP1805MatchesOfAView: what matched in one View does not match in the next one.
func TestP1805MatchesOfAView(t *testing.T) {
	story(t, "the primary of both", `
		replica 0 of 3 [a0 b0]
		< PrepareOk 1>0 op2
		save Commits op2
		< StartViewChange 1>0 v3
		save Views v3
		> StartViewChange 0>1 v3
		> StartViewChange 0>2 v3
		< PrepareOk 1>0 op2
		< DoViewChange 1>0 v3 c1 [a0 b0]
		save Logs [a0 b0]
		save Views v3 n3
		> StartView 0>1 v3 c2 [a0 b0]
		> StartView 0>2 v3 c2 [a0 b0]
		tick 2
		> Prepare 0>1 v3 c2 [a0 b0]
		> Prepare 0>2 v3 c2 [a0 b0]
		request c3
		save Logs op2 [c3]
		> Prepare 0>1 v3 op2 c2 [c3]
		> Prepare 0>2 v3 op2 c2 [c3]
		< PrepareOk 2>0 op3
		< PrepareOk 2>0 v2 op3
		is v3 c2 n3 [a0 b0 c3] leads
		< PrepareOk 2>0 v3 op3
		save Commits op3
	`)
}

// TestP1805GreaterView: what a replica is told in answer can't be of a greater View than
// its own; it is passed over.
func TestP1805GreaterView(t *testing.T) {
	for _, start := range []string{"0 of 3 v3 c1 n3 [a0 b1]", "1 of 3 v3 c1 n3 [a0 b1]", "0 of 3 v3 c1 n2 [a0 b1]", "1 of 3 v3 c1 n2 [a0 b1]"} {
		for _, kind := range []string{"PrepareOk", "GetState", "NewState"} {
			for _, rest := range []string{"v4", "v6 op1 c2", "v4 op2 c3", "v5 op1 [x4 y4]"} {
				if kind != "NewState" {
					rest, _, _ = strings.Cut(rest, " [")
				}
				story(t, start, "replica "+start+"\n< "+kind+" 2>"+start[:1]+" "+rest+"\nis"+start[len("0 of 3"):]+" "+kindOf(start))
			}
		}
	}
}

func TestP1805GetState(t *testing.T) {
	for _, start := range []string{"0 of 3 v3 n3 c1 [a0 b1 c3]", "1 of 3 v3 n3 c1 [a0 b1 c3]"} {
		id := start[:1]
		story(t, start, `
			replica `+start+`
			< GetState 2>`+id+` v3
			> NewState `+id+`>2 v3 c1 [a0 b1 c3]
			< GetState 2>`+id+` v3 op2 c7 n1
			> NewState `+id+`>2 v3 op2 c1 [c3]
			< GetState 2>`+id+` v3 op3
			> NewState `+id+`>2 v3 op3 c1
			< GetState 2>`+id+` v3 op4
			< GetState 2>`+id+` v3 op1099511627776
		`)
	}
	story(t, "one that changes", `
		replica 0 of 3 v3 n2 c1 [a0 b1]
		< GetState 2>0 v3
		< GetState 2>0 v3 op1
		is v3 c1 n2 [a0 b1] changes
	`)
	story(t, "one that joins", `
		replica 0 of 3 v4 n2 c1 [a0 b1]
		< Commit 1>0 v4
		> GetState 0>1 v4 op1
		< GetState 2>0 v4 op1
	`)
}

func TestP1805NewState(t *testing.T) {
	story(t, "a normal one: what it lacks", `
		replica 1 of 3 c1 [a0 b0]
		< NewState 0>1 op1 c3 [b0 c0 d0]
		save Logs op2 [c0 d0]
		save Commits op3
		> PrepareOk 1>0 op4
		< NewState 0>1 op1 c2 [b0]
		> PrepareOk 1>0 op4
		< NewState 0>1 op4 c9
		save Commits op4
		> PrepareOk 1>0 op4
		< NewState 0>1 op5 c9 [f0]
		is c4 [a0 b0 c0 d0] follows
	`)
	join := `
		replica 1 of 3 c2 [a0 b0 x0]
		< Commit 0>1 v3
		save Views v3
		> GetState 1>0 v3 op2
	`
	story(t, "one that joins", join+`
		< NewState 0>1 v3 op2 c3 [c0 d3]
		save Logs op2 [c0 d3]
		save Views v3 n3
		save Commits op3
		> PrepareOk 1>0 v3 op4
		is v3 c3 n3 [a0 b0 c0 d3] follows
	`)
	story(t, "one that joins, with nothing behind", join+`
		< NewState 0>1 v3 op2 c1
		save Logs op2
		save Views v3 n3
		> PrepareOk 1>0 v3 op2
		is v3 c2 n3 [a0 b0] follows
	`)
	story(t, "one that joins, from below its Commit", join+`
		< NewState 0>1 v3 op1 c9 [b0 c0]
		save Logs op1 [b0 c0]
		save Views v3 n3
		save Commits op3
		> PrepareOk 1>0 v3 op3
	`)
	story(t, "one that joins, from above its Commit", join+`
		< NewState 0>1 v3 op3 c3 [c0 d3]
		is v3 c2 [a0 b0 x0] changes
	`)
	story(t, "one that joins, without what is committed", join+`
		< NewState 0>1 v3 c9
		< NewState 0>1 v3 c9 [a0]
		< NewState 0>1 v3 op1
		is v3 c2 [a0 b0 x0] changes
		< NewState 0>1 v3 [a0 b0]
		save Logs [a0 b0]
		save Views v3 n3
		> PrepareOk 1>0 v3 op2
	`)
	story(t, "one that joins, of a lesser View", join+`
		< NewState 0>1 op2 [c0 d0]
		< NewState 0>1 v2 op2 [c0 d0]
		is v3 c2 [a0 b0 x0] changes
	`)
	story(t, "one that changes, and does not join", `
		replica 1 of 3 v3 n2 c1 [a0 b0]
		< NewState 0>1 v3 op1 c2 [b0 c0]
		is v3 c1 n2 [a0 b0] changes
	`)
	story(t, "from another one than the primary", join+`
		< NewState 2>1 v3 op2 c3 [c0 d3]
		save Logs op2 [c0 d3]
		save Views v3 n3
		save Commits op3
		> PrepareOk 1>0 v3 op4
		< NewState 2>1 v3 op4 c3 [e3]
		save Logs op4 [e3]
		> PrepareOk 1>0 v3 op5
	`)
	story(t, "a primary, which lacks nothing", `
		replica 0 of 3 c1 [a0 b0]
		< NewState 1>0 op1 c2 [b0 c0]
		< NewState 1>0 op2 c2
		is c1 [a0 b0] leads
	`)
}

// TestP1805NewStateTooMuch: also one that joins has no more than MaxLog entries.
func TestP1805NewStateTooMuch(t *testing.T) {
	full := many(api.MaxLog)
	r := mustNew(t, 2, 3, message.State{Commit: 1, Log: full[:1]})
	r.Step(readMessage("Commit 1>2 v1"))
	w, e := r.Step(message.Message{Kind: message.NewState, From: 1, To: 2, View: 1, Op: 1, Log: full})
	if e != api.OK || tellWork(w) != "" || r.Normal() {
		t.Error(shorten(tellWork(w)), e)
	}
	w, e = r.Step(message.Message{Kind: message.NewState, From: 1, To: 2, View: 1, Op: 1, Commit: api.MaxLog, Log: full[1:]})
	if e != api.OK || !r.Normal() || r.State().Commit != api.MaxLog || tellWork(sends(w)) != "> PrepareOk 2>1 v1 op2048" {
		t.Error(shorten(tellWork(w)), e)
	}
}

// wantRefused: ErrArg, and nothing has changed.
func wantRefused(t *testing.T, what string, r *view.Replica, m message.Message) {
	t.Helper()
	was := tellStatus(r)
	w, e := r.Step(m)
	if e != api.ErrArg || tellWork(w) != "" {
		t.Errorf("%s: %s, error %d", what, shorten(tellWork(w)), e)
	}
	wantStatus(t, what, r, was)
}
