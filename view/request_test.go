package view_test

import (
	"fmt"
	"strings"
	"testing"

	"weighhouse/api"
	"weighhouse/message"
)

// TestP1803Example: three replicas.
func TestP1803Example(t *testing.T) {
	story(t, "the example", `
		replica 0 of 3
		request a0
		save Logs [a0]
		> Prepare 0>1 [a0]
		> Prepare 0>2 [a0]
		is [a0] leads
		< PrepareOk 1>0 op1
		save Commits op1
		is c1 [a0] leads
	`)
}

func TestP1803Request(t *testing.T) {
	story(t, "one behind the other", `
		replica 0 of 3
		request a0
		save Logs [a0]
		> Prepare 0>1 [a0]
		> Prepare 0>2 [a0]
		request b0
		save Logs op1 [b0]
		> Prepare 0>1 op1 [b0]
		> Prepare 0>2 op1 [b0]
		< PrepareOk 2>0 op1
		save Commits op1
		request c0
		save Logs op2 [c0]
		> Prepare 0>1 op2 c1 [c0]
		> Prepare 0>2 op2 c1 [c0]
		is c1 [a0 b0 c0] leads
	`)
	story(t, "five, in View 7", `
		replica 2 of 5 v7 n7 c1 [a0 b3]
		request c7
		save Logs op2 [c7]
		> Prepare 2>0 v7 op2 c1 [c7]
		> Prepare 2>1 v7 op2 c1 [c7]
		> Prepare 2>3 v7 op2 c1 [c7]
		> Prepare 2>4 v7 op2 c1 [c7]
		is v7 c1 n7 [a0 b3 c7] leads
	`)
	story(t, "seven", `
		replica 6 of 7 v6 n6
		request a6
		save Logs [a6]
		> Prepare 6>0 v6 [a6]
		> Prepare 6>1 v6 [a6]
		> Prepare 6>2 v6 [a6]
		> Prepare 6>3 v6 [a6]
		> Prepare 6>4 v6 [a6]
		> Prepare 6>5 v6 [a6]
	`)
}

// TestP1803Alone: with n = 1 it is committed.
func TestP1803Alone(t *testing.T) {
	story(t, "alone", `
		replica 0 of 1
		request a0
		save Logs [a0]
		save Commits op1
		request b0
		save Logs op1 [b0]
		save Commits op2
		is c2 [a0 b0] leads
		tick 2
		is c2 [a0 b0] leads
	`)
	story(t, "alone, with entries that are not committed", `
		replica 0 of 1 v3 n3 [a0 b0]
		request c3
		save Logs op2 [c3]
		save Commits op3
	`)
}

func TestP1803DoesNotLead(t *testing.T) {
	for _, start := range []string{
		"replica 1 of 3", "replica 2 of 3", "replica 0 of 3 v1 n1", "replica 0 of 3 v3 n2", "replica 1 of 3 v1", "replica 0 of 1 v1", "replica 4 of 5 v5 n5",
	} {
		story(t, start, start+"\nrequest a0\nfails 51")
	}
	full := fmt.Sprint(strings.Repeat("a0 ", api.MaxLog))
	story(t, "a full one", "replica 1 of 3 ["+full+"]\nrequest a0\nfails 51")
}

func TestP1803Data(t *testing.T) {
	for _, data := range []string{"", "\x00\xff", strings.Repeat("d", longest)} {
		r := mustNew(t, 0, 3, message.State{})
		n, w, e := r.Request(data)
		if n != 1 || e != api.OK || len(w.Save) != 1 || w.Save[0].Log[0].Data != data || len(w.Send) != 2 || w.Send[1].Log[0].Data != data || r.State().Log[0].Data != data {
			t.Error("Request of", shorten(data), n, e)
		}
	}
	tooLong := strings.Repeat("d", longest+1)
	full := message.State{Log: many(api.MaxLog)}
	for what, x := range map[string]struct {
		id   int
		s    message.State
		data string
		want api.Errno
	}{
		"one byte too much":               {0, message.State{}, tooLong, api.ErrArg},
		"that of one that does not lead":  {1, message.State{}, tooLong, api.ErrArg},
		"that of a full one":              {0, full, tooLong, api.ErrArg},
		"that of both":                    {1, full, tooLong, api.ErrArg},
		"a full one":                      {0, full, "a", api.ErrFull},
		"a full one that does not lead":   {1, full, "a", api.ErrView},
		"a full one, and nothing to say":  {0, full, "", api.ErrFull},
		"a full one that changes":         {0, message.State{View: 3, Log: full.Log}, "a", api.ErrView},
		"of one alone that changes":       {0, message.State{View: 3}, "a", api.ErrView},
		"a backup that is asked too much": {2, message.State{}, strings.Repeat("d", 1<<20), api.ErrArg},
	} {
		r := mustNew(t, x.id, 3, x.s)
		was := tellStatus(r)
		n, w, e := r.Request(x.data)
		if n != 0 || e != x.want || tellWork(w) != "" {
			t.Error(what, n, e, shorten(tellWork(w)))
		}
		wantStatus(t, what, r, was)
	}
}

// TestP1803LastOne: there is room for MaxLog entries, and for no more.
func TestP1803LastOne(t *testing.T) {
	for _, n := range []int{1, 3} {
		r := mustNew(t, 0, n, message.State{Log: many(api.MaxLog - 1)})
		if got, _, e := r.Request("last"); got != api.MaxLog || e != api.OK {
			t.Error("the last one:", got, e)
		}
		if got, w, e := r.Request("more"); got != 0 || e != api.ErrFull || tellWork(w) != "" {
			t.Error("one more:", got, e)
		}
		if s := r.State(); len(s.Log) != api.MaxLog || s.Log[api.MaxLog-1].Data != "last" {
			t.Error("it has", len(s.Log))
		}
	}
}
