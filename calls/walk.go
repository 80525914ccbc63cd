package calls

import (
	"slices"

	"weighhouse/api"
)

// straight answers the graph of s, and of each function how deep it is; ErrCall,
// if calls go round, for then no depth means anything.
func straight(s api.Script) ([][]int, map[int]int, api.Errno) {
	g, e := Graph(s)
	if e != api.OK {
		return nil, nil, e
	}
	// a round need not be reached by the first function: all are gone through
	deep, round := walk(g, places(g)...)
	if round {
		return nil, nil, api.ErrCall
	}
	return g, deep, api.OK
}

func places(g [][]int) []int {
	l := make([]int, len(g))
	for f := range l {
		l[f] = f
	}
	return l
}

// walk goes through all calls from the functions of begin on. It answers of
// each one that it met how many stand in the longest chain that begins with it,
// and whether a chain came back to a function that stands in it already; if one
// did, the numbers mean nothing.
func walk(g [][]int, begin ...int) (met map[int]int, round bool) {
	met = map[int]int{}
	var from func(f int) int
	from = func(f int) int {
		if deep, was := met[f]; was {
			round = round || deep == 0
			return deep
		}
		// 0 stands for a function whose calls are still gone through: it is
		// in the chain that leads here
		met[f] = 0
		most := 0
		for _, callee := range g[f] {
			most = max(most, from(callee))
		}
		met[f] = most + 1
		return met[f]
	}
	for _, f := range begin {
		from(f)
	}
	return met, round
}

// line answers all functions: again and again the least one that was not told
// yet, and all of whose callees were. There always is one, as no calls go round.
func line(g [][]int) []int {
	var l []int
	told := map[int]int{} // by function: how many were told with it
	waits := func(f int) bool { return told[f] == 0 }
	ready := func(f int) bool { return !slices.ContainsFunc(g[f], waits) }
	for left := places(g); len(left) > 0; {
		at := slices.IndexFunc(left, ready)
		l = append(l, left[at])
		told[left[at]] = len(l)
		left = slices.Delete(left, at, at+1)
	}
	return l
}
