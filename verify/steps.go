package verify

import (
	"weighhouse/api"
	"weighhouse/bound"
	"weighhouse/calls"
	"weighhouse/code"
	"weighhouse/types"
)

// draft is a report in the making: the steps tell it by its promoted fields, and
// beside it what only later steps ask for.
type draft struct {
	Report
	callees [][]int
}

// steps answers the steps that tell the draft of s, in the order of their
// errors; each one leans on those ahead of it having gone well.
func steps(s api.Script, d *draft) []func() api.Errno {
	return []func() api.Errno{
		func() api.Errno {
			if !code.Right(s) {
				return api.ErrScript
			}
			d.Script = code.Clone(s)
			return api.OK
		},
		func() (e api.Errno) { d.Stacks, e = types.All(s); return e },
		func() (e api.Errno) { d.Order, e = calls.Order(s); return e },
		func() (e api.Errno) { d.Gas, e = bound.Total(s); return e },
		func() (e api.Errno) { d.Deep, e = calls.Deep(s); return e },
		func() (e api.Errno) { d.callees, e = calls.Graph(s); return e },
		func() api.Errno { d.Rooms = d.rooms(); return api.OK },
	}
}

// rooms answers of each function how much room it takes, by itself and below.
func (d *draft) rooms() []int {
	rooms := make([]int, len(d.Order))
	// each function stands behind those that it calls: their rooms are there
	for _, f := range d.Order {
		below := 0
		for _, callee := range d.callees[f] {
			below = max(below, rooms[callee])
		}
		rooms[f] = len(code.Slots(d.Script.Funcs[f])) + d.Stacks[f] + below
	}
	return rooms
}
