package view_test

import (
	"fmt"
	"slices"
	"strconv"
	"strings"
	"testing"

	"weighhouse/api"
	"weighhouse/view"
)

// teller plays a story: lines that say what happens to a replica, with what it answers
// behind each.
//
//	replica 1 of 3 v2 n1 [a0]   a new one, of a state
//	request x                   its number is that of the log's last entry
//	tick 3                      three times; only the last one may answer something
//	< Prepare 0>1 [a0]          a step
//	save Logs [a0]              a record that the line above saves
//	> PrepareOk 1>0 op1         a message that it sends
//	fails 51                    the error that it answers; nothing has changed then
//	is v2 n1 [a0] changes       what the replica is: leads, follows, or changes
type teller struct {
	t     *testing.T
	name  string
	r     *view.Replica
	id, n int
}

func story(t *testing.T, name, text string) *view.Replica {
	t.Helper()
	s := &teller{t: t, name: name}
	lines := slices.DeleteFunc(strings.Split(text, "\n"), func(x string) bool { return strings.TrimSpace(x) == "" })
	for i := 0; i < len(lines); {
		line, want, fails := strings.TrimSpace(lines[i]), []string(nil), api.OK
		for i++; i < len(lines); i++ {
			x := strings.TrimSpace(lines[i])
			if strings.HasPrefix(x, "fails ") {
				n, _ := strconv.Atoi(x[len("fails "):])
				fails = api.Errno(n)
			} else if strings.HasPrefix(x, "save ") || strings.HasPrefix(x, "> ") {
				want = append(want, x)
			} else {
				break
			}
		}
		s.line(line, strings.Join(want, "\n"), fails)
	}
	return s.r
}

func (s *teller) line(line, want string, fails api.Errno) {
	s.t.Helper()
	what := s.name + ": " + line
	word, rest, _ := strings.Cut(line, " ")
	switch word {
	case "replica":
		fmt.Sscanf(rest, "%d of %d", &s.id, &s.n)
		s.r = mustNew(s.t, s.id, s.n, readState(rest))
	case "is":
		wantStatus(s.t, what, s.r, rest)
	case "tick":
		n, _ := strconv.Atoi(rest)
		for i := range n {
			if i == n-1 {
				s.call(what, want, fails, s.r.Tick)
			} else {
				s.call(fmt.Sprint(what, ": at ", i+1), "", api.OK, s.r.Tick)
			}
		}
	case "<":
		s.call(what, want, fails, func() (view.Work, api.Errno) { return s.r.Step(readMessage(rest)) })
	case "request":
		s.call(what, want, fails, func() (view.Work, api.Errno) {
			n, w, e := s.r.Request(rest)
			if e == api.OK && n != len(s.r.State().Log) || e != api.OK && n != 0 {
				s.t.Error(what, "answers", n)
			}
			return w, e
		})
	default:
		s.t.Fatal(what, "is no line of a story")
	}
}

func (s *teller) call(what, want string, fails api.Errno, f func() (view.Work, api.Errno)) {
	s.t.Helper()
	before, was := s.r.State(), tellStatus(s.r)
	w, e := f()
	if e != fails {
		s.t.Errorf("%s: error %d, want %d", what, e, fails)
	}
	if e != api.OK {
		wantStatus(s.t, what, s.r, was)
	}
	wantWork(s.t, what, w, want)
	wantLasting(s.t, what, s.n, s.id, before, w, s.r.State())
	wantSends(s.t, what, s.n, s.id, w)
}
