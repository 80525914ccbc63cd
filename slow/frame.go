package slow

import (
	"slices"

	"weighhouse/api"
	"weighhouse/code"
	"weighhouse/op"
	"weighhouse/shape"
	"weighhouse/value"
)

// anyType stands in an operation's In for a type that it does not say.
const anyType = 0

// routine is a function with what is told of it once, not at each call: the
// types of its slots, and where its instructions lead.
type routine struct {
	api.Func
	kinds, match []int
}

// routines answers those of a script that may be.
func routines(funcs []api.Func) ([]*routine, api.Errno) {
	var l []*routine
	for _, f := range funcs {
		m, e := shape.Match(f.Code)
		if e != api.OK {
			return nil, e
		}
		l = append(l, &routine{f, code.Slots(f), m})
	}
	return l, api.OK
}

// frame is a function that was called and has not ended.
type frame struct {
	*routine
	values
	slots []api.Value
	left  map[int]int // rounds, by the places of their loops
	at    int
}

func newFrame(f *routine, args []api.Value) *frame {
	slots := slices.Clone(args)
	for _, kind := range f.Locals {
		slots = append(slots, value.Zero(kind))
	}
	return &frame{routine: f, slots: slots, left: map[int]int{}}
}

func (f *frame) ended() bool {
	return f.at == len(f.Code)
}

// results answers the stack, if it is one that the function may end with.
func (f *frame) results() []api.Value {
	if len(f.stack) != len(f.Results) {
		panic(api.ErrStack)
	}
	if !value.Fits(f.stack, f.Results) {
		panic(api.ErrType)
	}
	return f.stack
}

func (f *frame) set(slot int, v api.Value) {
	if v.Type != f.kinds[slot] {
		panic(api.ErrType)
	}
	f.slots[slot] = v
}

// round answers whether the block that ends at this place is a loop that goes
// round once more.
func (f *frame) round() bool {
	start := f.match[f.at]
	if f.Code[start].Op != op.Loops {
		return false
	}
	f.left[start]--
	return f.left[start] > 0
}

// goOn goes to the next instruction; yes is as shape.Next asks it.
func (f *frame) goOn(yes bool) {
	f.at = shape.Next(f.Code, f.match, f.at, yes)
}

// values has a stack of them, the top last.
type values struct {
	stack []api.Value
}

func (v *values) put(l ...api.Value) {
	v.stack = append(v.stack, l...)
}

// putFound puts what a look at the transaction answers.
func (v *values) putFound(text string, ok bool) {
	v.put(value.Text(text), value.Truth(ok))
}

// take answers values of these types, taken off one by one, the last one first:
// where the top is of another type, it does not matter that there are too few
// below it.
func (v *values) take(kinds ...int) []api.Value {
	l := make([]api.Value, len(kinds))
	for i, kind := range slices.Backward(kinds) {
		last := len(v.stack) - 1
		if last < 0 {
			panic(api.ErrStack)
		}
		l[i] = v.stack[last]
		if kind != anyType && kind != l[i].Type {
			panic(api.ErrType)
		}
		v.stack = v.stack[:last]
	}
	return l
}

// frames has a stack of them, the top last: that one does the next step.
type frames struct {
	open []*frame
}

func (s *frames) enter(f *frame) {
	s.open = append(s.open, f)
}

// leave answers the top, which is no more; it is asked only where there is one.
func (s *frames) leave() *frame {
	f := s.top()
	s.open = s.open[:s.depth()-1]
	return f
}

// top answers nil if there is none.
func (s *frames) top() *frame {
	if s.depth() == 0 {
		return nil
	}
	return s.open[s.depth()-1]
}

func (s *frames) depth() int {
	return len(s.open)
}
