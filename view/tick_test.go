package view_test

import (
	"testing"

	"weighhouse/view"
)

func TestP1804Constants(t *testing.T) {
	if view.Beat != 2 || view.Patience != 10 {
		t.Error(view.Beat, view.Patience)
	}
}

func TestP1804Primary(t *testing.T) {
	story(t, "nothing to match", `
		replica 0 of 3
		tick 2
		> Commit 0>1
		> Commit 0>2
		tick 1
		tick 1
		> Commit 0>1
		> Commit 0>2
	`)
	story(t, "as far as they match", `
		replica 2 of 5 v2 n2 c1 [a0 b1 c2]
		< PrepareOk 0>2 v2 op3
		< PrepareOk 3>2 v2 op1
		tick 2
		> Commit 2>0 v2 c1
		> Prepare 2>1 v2 c1 [a0 b1 c2]
		> Prepare 2>3 v2 op1 c1 [b1 c2]
		> Prepare 2>4 v2 c1 [a0 b1 c2]
		< PrepareOk 3>2 v2 op2
		save Commits op2
		< PrepareOk 1>2 v2 op3
		save Commits op3
		< PrepareOk 4>2 v2 op3
		tick 2
		> Commit 2>0 v2 c3
		> Commit 2>1 v2 c3
		> Prepare 2>3 v2 op2 c3 [c2]
		> Commit 2>4 v2 c3
	`)
	story(t, "what matched may lack a later entry", `
		replica 0 of 3 [a0]
		< PrepareOk 1>0 op1
		save Commits op1
		request b0
		save Logs op1 [b0]
		> Prepare 0>1 op1 c1 [b0]
		> Prepare 0>2 op1 c1 [b0]
		tick 2
		> Prepare 0>1 op1 c1 [b0]
		> Prepare 0>2 c1 [a0 b0]
	`)
}

// TestP1804PrimaryStays: a primary waits for nobody, and its beat goes on whatever it
// is asked and told.
func TestP1804PrimaryStays(t *testing.T) {
	r := story(t, "silence", "replica 0 of 3")
	for i := range 100 {
		w, e := r.Tick()
		want := "> Commit 0>1\n> Commit 0>2"
		if i%2 == 0 {
			want = ""
		}
		if e != 0 {
			t.Error(e)
		}
		wantWork(t, "a tick", w, want)
	}
	story(t, "between ticks", `
		replica 0 of 3
		tick 1
		request a0
		save Logs [a0]
		> Prepare 0>1 [a0]
		> Prepare 0>2 [a0]
		< PrepareOk 1>0 op1
		save Commits op1
		< GetState 2>0
		> NewState 0>2 c1 [a0]
		tick 1
		> Commit 0>1 c1
		> Prepare 0>2 c1 [a0]
	`)
}

// TestP1804Alone: with n = 1 all that it has is committed, at the beat.
func TestP1804Alone(t *testing.T) {
	story(t, "alone", `
		replica 0 of 1 v2 n2 c1 [a0 b1 c2]
		tick 1
		is v2 c1 n2 [a0 b1 c2] leads
		tick 1
		save Commits op3
		is v2 c3 n2 [a0 b1 c2] leads
		tick 20
	`)
}

// TestP1804Backup: after Patience ticks without a word of its primary it changes, at the
// tick.
func TestP1804Backup(t *testing.T) {
	story(t, "silence", `
		replica 1 of 3
		tick 9
		is follows
		tick 1
		save Views v1
		> StartViewChange 1>0 v1
		> StartViewChange 1>2 v1
		is v1 changes
	`)
	story(t, "five, of a state", `
		replica 4 of 5 v8 n8 c1 [a0 b3]
		tick 10
		save Views v9 n8
		> StartViewChange 4>0 v9
		> StartViewChange 4>1 v9
		> StartViewChange 4>2 v9
		> StartViewChange 4>3 v9
		is v9 c1 n8 [a0 b3] changes
	`)
}

// TestP1804Words: each word of its primary is one, whatever it says; nobody else's is.
func TestP1804Words(t *testing.T) {
	change := `
		save Views v4 n3
		> StartViewChange 1>0 v4
		> StartViewChange 1>2 v4
	`
	for _, word := range []string{
		"< Prepare 0>1 v3 op1 [b3]\nsave Logs op1 [b3]\n> PrepareOk 1>0 v3 op2",
		"< Prepare 0>1 v3 [a0]\n> PrepareOk 1>0 v3 op1",
		"< Prepare 0>1 v3 op2 [c3]\n> GetState 1>0 v3 op1",
		"< Commit 0>1 v3",
		"< Commit 0>1 v3 c1\nsave Commits op1",
		"< Commit 0>1 v3 c2\nsave Commits op1\n> GetState 1>0 v3 op1",
		"< StartView 0>1 v3\n> PrepareOk 1>0 v3 op1",
		"< NewState 0>1 v3 op1 [b3]\nsave Logs op1 [b3]\n> PrepareOk 1>0 v3 op2",
	} {
		story(t, "a word", "replica 1 of 3 v3 n3 [a0]\ntick 9\n"+word+"\ntick 9\ntick 1"+change)
		story(t, "a word at once", "replica 1 of 3 v3 n3 [a0]\n"+word+"\ntick 10"+change)
	}
	for _, other := range []string{
		"< Prepare 2>1 v3 op1 [b3]", "< Commit 2>1 v3", "< StartView 2>1 v3", "< GetState 2>1 v3 op1\n> NewState 1>2 v3 op1",
		"< StartViewChange 2>1 v3", "< DoViewChange 2>1 v3", "< Prepare 0>1 v2 op1 [b2]", "< Commit 0>1 v2", "< PrepareOk 2>1 v3 op1", "< Commit 0>1 v1", "< Commit 1>0 v3\nfails 1",
		"< Commit 0>1 v4", "< PrepareOk 0>1 v4 op1",
	} {
		story(t, "no word of its primary", "replica 1 of 3 v3 n3 [a0]\ntick 9\n"+other+"\ntick 1"+change)
	}
}

// TestP1804Changes: one that changes tells so each Beat, and goes on to the next View
// after Patience.
func TestP1804Changes(t *testing.T) {
	story(t, "nobody answers", `
		replica 2 of 3
		tick 10
		save Views v1
		> StartViewChange 2>0 v1
		> StartViewChange 2>1 v1
		tick 2
		> StartViewChange 2>0 v1
		> StartViewChange 2>1 v1
		tick 2
		> StartViewChange 2>0 v1
		> StartViewChange 2>1 v1
		tick 2
		> StartViewChange 2>0 v1
		> StartViewChange 2>1 v1
		tick 2
		> StartViewChange 2>0 v1
		> StartViewChange 2>1 v1
		tick 1
		tick 1
		save Views v2
		> StartViewChange 2>0 v2
		> StartViewChange 2>1 v2
		is v2 changes
		tick 2
		> StartViewChange 2>0 v2
		> StartViewChange 2>1 v2
	`)
	story(t, "one that comes back", `
		replica 2 of 3 v5 n3 [a0]
		tick 2
		> StartViewChange 2>0 v5
		> StartViewChange 2>1 v5
		tick 2
		> StartViewChange 2>0 v5
		> StartViewChange 2>1 v5
		tick 2
		> StartViewChange 2>0 v5
		> StartViewChange 2>1 v5
		tick 2
		> StartViewChange 2>0 v5
		> StartViewChange 2>1 v5
		tick 2
		save Views v6 n3
		> StartViewChange 2>0 v6
		> StartViewChange 2>1 v6
	`)
}

// TestP1804ChangesWithVote: and its DoViewChange, once it has sent one.
func TestP1804ChangesWithVote(t *testing.T) {
	story(t, "a DoViewChange", `
		replica 0 of 3 v1 c1 [a0 b0]
		tick 1
		< StartViewChange 2>0 v1
		> DoViewChange 0>1 v1 c1 [a0 b0]
		tick 1
		> StartViewChange 0>1 v1
		> StartViewChange 0>2 v1
		> DoViewChange 0>1 v1 c1 [a0 b0]
		tick 2
		> StartViewChange 0>1 v1
		> StartViewChange 0>2 v1
		> DoViewChange 0>1 v1 c1 [a0 b0]
		tick 2
		> StartViewChange 0>1 v1
		> StartViewChange 0>2 v1
		> DoViewChange 0>1 v1 c1 [a0 b0]
		tick 2
		> StartViewChange 0>1 v1
		> StartViewChange 0>2 v1
		> DoViewChange 0>1 v1 c1 [a0 b0]
		tick 2
		save Views v2
		> StartViewChange 0>1 v2
		> StartViewChange 0>2 v2
		tick 2
		> StartViewChange 0>1 v2
		> StartViewChange 0>2 v2
	`)
	story(t, "the View's primary tells none to others", `
		replica 1 of 3 v1
		< StartViewChange 2>1 v1
		tick 2
		> StartViewChange 1>0 v1
		> StartViewChange 1>2 v1
		is v1 changes
	`)
}

// TestP1804Joins: its GetState instead; and by Patience to the next View, where it
// changes, and does not join.
func TestP1804Joins(t *testing.T) {
	story(t, "the primary is silent", `
		replica 2 of 3 c1 [a0 b0]
		tick 9
		< Commit 1>2 v4 c2
		save Views v4
		> GetState 2>1 v4 op1
		is v4 c1 [a0 b0] changes
		tick 2
		> GetState 2>1 v4 op1
		tick 2
		> GetState 2>1 v4 op1
		tick 2
		> GetState 2>1 v4 op1
		tick 2
		> GetState 2>1 v4 op1
		tick 1
		tick 1
		save Views v5
		> StartViewChange 2>0 v5
		> StartViewChange 2>1 v5
		< StartViewChange 0>2 v5
		is v5 c1 [a0 b0] changes
		tick 2
		> StartViewChange 2>0 v5
		> StartViewChange 2>1 v5
	`)
	story(t, "no new View", `
		replica 0 of 3 v1
		< StartViewChange 2>0 v1
		> DoViewChange 0>1 v1
		tick 2
		> StartViewChange 0>1 v1
		> StartViewChange 0>2 v1
		> DoViewChange 0>1 v1
		tick 1
		< Prepare 1>0 v1 op3 c2 [d1]
		> GetState 0>1 v1
		tick 1
		> GetState 0>1 v1
		tick 2
		> GetState 0>1 v1
		tick 2
		> GetState 0>1 v1
		< Commit 1>0 v1 c2
		> GetState 0>1 v1
		tick 2
		save Views v2
		> StartViewChange 0>1 v2
		> StartViewChange 0>2 v2
	`)
}

// TestP1804CountAnew: what it comes to be begins with a count of its own.
func TestP1804CountAnew(t *testing.T) {
	story(t, "a greater View", `
		replica 2 of 5
		tick 9
		< StartViewChange 1>2 v3
		save Views v3
		> StartViewChange 2>0 v3
		> StartViewChange 2>1 v3
		> StartViewChange 2>3 v3
		> StartViewChange 2>4 v3
		tick 2
		> StartViewChange 2>0 v3
		> StartViewChange 2>1 v3
		> StartViewChange 2>3 v3
		> StartViewChange 2>4 v3
	`)
	story(t, "a backup of a new View", `
		replica 2 of 3 v1
		tick 1
		< StartView 1>2 v1
		save Logs
		save Views v1 n1
		> PrepareOk 2>1 v1
		tick 9
		tick 1
		save Views v2 n1
		> StartViewChange 2>0 v2
		> StartViewChange 2>1 v2
	`)
	story(t, "a primary of a new View", `
		replica 1 of 3 v1
		tick 1
		< DoViewChange 0>1 v1
		< StartViewChange 2>1 v1
		save Logs
		save Views v1 n1
		> StartView 1>0 v1
		> StartView 1>2 v1
		tick 1
		tick 1
		> Commit 1>0 v1
		> Commit 1>2 v1
	`)
	story(t, "one that joined", `
		replica 2 of 3
		tick 9
		< Commit 1>2 v1
		save Views v1
		> GetState 2>1 v1
		tick 1
		< NewState 1>2 v1
		save Logs
		save Views v1 n1
		> PrepareOk 2>1 v1
		tick 9
		tick 1
		save Views v2 n1
		> StartViewChange 2>0 v2
		> StartViewChange 2>1 v2
	`)
}

// TestP1804LastView: there is no View behind the greatest one that a message may have.
func TestP1804LastView(t *testing.T) {
	text := `
		replica 0 of 3
		< StartViewChange 1>0 v1099511627776
		save Views v1099511627776
		> StartViewChange 0>1 v1099511627776
		> StartViewChange 0>2 v1099511627776
		> DoViewChange 0>1 v1099511627776`
	for range 20 {
		text += `
		tick 2
		> StartViewChange 0>1 v1099511627776
		> StartViewChange 0>2 v1099511627776
		> DoViewChange 0>1 v1099511627776`
	}
	story(t, "it changes", text+`
		< StartView 1>0 v1099511627776
		save Logs
		save Views v1099511627776 n1099511627776
		> PrepareOk 0>1 v1099511627776
		tick 40
		is v1099511627776 n1099511627776 follows
	`)
	story(t, "the one ahead of it", `
		replica 1 of 3
		< Commit 0>1 v1099511627775
		save Views v1099511627775
		> GetState 1>0 v1099511627775
		< NewState 0>1 v1099511627775
		save Logs
		save Views v1099511627775 n1099511627775
		> PrepareOk 1>0 v1099511627775
		tick 9
		tick 1
		save Views v1099511627776 n1099511627775
		> StartViewChange 1>0 v1099511627776
		> StartViewChange 1>2 v1099511627776
	`)
}
