package message

import (
	"strings"

	"weighhouse/api"
)

// Fold answers the state that the records tell, one behind the other.
func Fold(l []Record) (State, bool) {
	var s State
	for _, r := range l {
		if !s.follow(r) {
			return State{}, false
		}
	}
	return s, true
}

// follow answers whether r may stand behind the records of s, and makes the state
// theirs and its.
func (s *State) follow(r Record) bool {
	if !RightRecord(r) {
		return false
	}
	switch r.Kind {
	case Views:
		return s.rise(r.View, r.Normal)
	case Logs:
		return s.relog(r.Op, r.Log...)
	default:
		return s.commit(r.Op)
	}
}

func (s *State) rise(view, normal int) bool {
	if view < s.View || normal > view {
		return false
	}
	s.View, s.Normal = view, normal
	return true
}

// relog keeps the log's first entries, and puts others behind them. How many are
// committed does not count here: a log may be written anew from below that.
func (s *State) relog(keep int, l ...Entry) bool {
	if keep > len(s.Log) || keep+len(l) > api.MaxLog {
		return false
	}
	s.Log = s.Log[:keep]
	for _, x := range l {
		s.Log = append(s.Log, Entry{View: x.View, Data: strings.Clone(x.Data)})
	}
	return true
}

func (s *State) commit(op int) bool {
	if op > len(s.Log) || op < s.Commit {
		return false
	}
	s.Commit = op
	return true
}
