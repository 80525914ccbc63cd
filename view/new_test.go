package view_test

import (
	"fmt"
	"math"
	"slices"
	"strings"
	"testing"

	"weighhouse/api"
	"weighhouse/message"
	"weighhouse/view"
)

func wantNoReplica(t *testing.T, what string, id, n int, s message.State) {
	t.Helper()
	if r, e := view.New(id, n, s); r != nil || e != api.ErrArg {
		t.Errorf("New of %s: %v, error %d", what, r, e)
	}
}

func TestP1802HowMany(t *testing.T) {
	for n := -9; n <= 20; n++ {
		for id := -2; id <= n+2 || id <= 2; id++ {
			what := fmt.Sprint(id, " of ", n)
			if slices.Contains([]int{1, 3, 5, 7}, n) && id >= 0 && id < n {
				r := mustNew(t, id, n, message.State{})
				wantStatus(t, what, r, map[bool]string{true: "leads", false: "follows"}[id == 0])
			} else {
				wantNoReplica(t, what, id, n, message.State{})
			}
		}
	}
	for _, x := range []int{math.MinInt, math.MaxInt, 1 << 40, -1 << 40} {
		wantNoReplica(t, "a huge n", 0, x, message.State{})
		wantNoReplica(t, "a huge id", x, 3, message.State{})
	}
}

// TestP1802States: a replica has the state that it is made of.
func TestP1802States(t *testing.T) {
	full := many(api.MaxLog)
	for _, s := range []message.State{
		{},
		{View: 1, Normal: 1},
		{View: 1},
		{View: 4, Normal: 3, Commit: 1, Log: entries("a0 b3")},
		{View: 4, Normal: 4, Commit: 2, Log: entries("a0 b3")},
		{Log: entries("a7")}, // of a View that is above its own
		{View: newest, Normal: newest},
		{View: newest},
		{View: newest, Normal: newest - 1},
		{Commit: api.MaxLog, Log: full},
		{Log: []message.Entry{{View: 1 << 40, Data: strings.Repeat("d", longest)}, {}}},
		{Log: []message.Entry{}},
	} {
		for _, n := range []int{1, 3, 5, 7} {
			for id := range n {
				what := fmt.Sprint(id, " of ", n, ": ", shorten(tellState(s)))
				r := mustNew(t, id, n, s)
				if got := r.State(); tellState(got) != tellState(s) {
					t.Error(what, "has", shorten(tellState(got)))
				}
				if normal := s.Normal == s.View; r.Normal() != normal || r.Leads() != (normal && s.View%n == id) {
					t.Error(what, "normal", r.Normal(), "leads", r.Leads())
				}
			}
		}
	}
}

func TestP1802WrongStates(t *testing.T) {
	full := many(api.MaxLog + 1)
	for what, s := range map[string]message.State{
		"a View past the newest":        {View: newest + 1},
		"both past the newest":          {View: newest + 1, Normal: newest + 1},
		"a View that messages may have": {View: 1 << 40},
		"a huge View":                   {View: math.MaxInt},
		"a View below 0":                {View: -1},
		"both below 0":                  {View: -1, Normal: -1},
		"a Normal below 0":              {View: 1, Normal: -1},
		"a least Normal":                {Normal: math.MinInt},
		"a Normal above the View":       {View: 2, Normal: 3},
		"a Normal of View 0":            {Normal: 1},
		"too many entries":              {Log: full},
		"a Commit above the entries":    {Commit: 2, Log: entries("a0")},
		"a Commit of none":              {Commit: 1},
		"a Commit below 0":              {Commit: -1, Log: entries("a0")},
		"a huge Commit":                 {Commit: math.MaxInt, Log: entries("a0")},
		"an entry of a View below 0":    {Log: []message.Entry{{}, {View: -1}}},
		"an entry of too great a View":  {Log: []message.Entry{{}, {View: 1<<40 + 1}}},
		"an entry that is too long":     {Log: []message.Entry{{}, {Data: strings.Repeat("d", longest+1)}}},
	} {
		for _, n := range []int{1, 3, 5, 7} {
			wantNoReplica(t, what, n-1, n, s)
		}
	}
}

// TestP1802NothingMatches: what a primary knew of others ahead of a crash is told anew.
func TestP1802NothingMatches(t *testing.T) {
	story(t, "a primary that comes back", `
		replica 1 of 3 v4 n4 c1 [a0 b4]
		is v4 c1 n4 [a0 b4] leads
		tick 2
		> Prepare 1>0 v4 c1 [a0 b4]
		> Prepare 1>2 v4 c1 [a0 b4]
	`)
}

func TestP1802Primary(t *testing.T) {
	for _, n := range []int{1, 2, 3, 5, 7, 8} {
		for v := range 50 {
			if got := view.Primary(v, n); got != v%n {
				t.Errorf("Primary(%d, %d): %d", v, n, got)
			}
		}
	}
	if got := view.Primary(1<<40, 7); got != 2 {
		t.Error("of the last View", got)
	}
	for _, n := range []int{0, -1, -3, math.MinInt} {
		for _, v := range []int{0, 5, -1, -7, math.MinInt, math.MaxInt} {
			if got := view.Primary(v, n); got != 0 {
				t.Errorf("Primary(%d, %d), of no replicas: %d", v, n, got)
			}
		}
	}
}

// TestP1802PrimaryBelow: below 0, too, views lead round and round: each is the primary's
// that the view n above it has.
func TestP1802PrimaryBelow(t *testing.T) {
	for n := 1; n < 10; n++ {
		for v := -1; v > -50; v-- {
			want := (v + 50*n) % n
			if got := view.Primary(v, n); got < 0 || got >= n || got != want || got != view.Primary(v+n, n) {
				t.Errorf("Primary(%d, %d): %d, not %d", v, n, got, want)
			}
		}
	}
	for _, x := range [][3]int{
		{-1, 2, 1}, {-1, 3, 2}, {-2, 3, 1}, {-3, 3, 0}, {-7, 5, 3}, {-1, 1, 0},
		{math.MinInt, 1, 0}, {math.MinInt, 2, 0}, {math.MinInt, 3, 1}, {math.MinInt, 7, 6},
		{-1, math.MaxInt, math.MaxInt - 1}, {math.MinInt, math.MaxInt, math.MaxInt - 1},
		{-math.MaxInt, math.MaxInt, 0}, {math.MaxInt, math.MaxInt, 0}, {1 << 62, 1<<62 + 1, 1 << 62},
	} {
		if got := view.Primary(x[0], x[1]); got != x[2] {
			t.Errorf("Primary(%d, %d): %d, not %d", x[0], x[1], got, x[2])
		}
	}
}
