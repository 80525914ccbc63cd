package fast

// slot has a value without its type: a number, a truth as 0 or 1, or bytes; what
// is not of the type is zero.
type slot struct {
	n int
	b string
}

func truth(yes bool) slot {
	if yes {
		return slot{n: 1}
	}
	return slot{}
}

// frame is a function that was called and has not ended: its slots, its stack,
// the rest of the room behind these, and the place in the row where its caller
// goes on.
type frame struct {
	slots, stack, rest []slot
	caller             int
}

// cut answers a frame at the beginning of the room. Each piece ends where the
// next one begins, so that none can reach into another.
func cut(room []slot, f routine, caller int) frame {
	end := f.slots + f.stack
	return frame{
		slots:  room[:f.slots:f.slots],
		stack:  room[f.slots:f.slots:end],
		rest:   room[end:],
		caller: caller,
	}
}

// fill gives the slots the arguments, and zeros behind them: the room may have
// been another frame's.
func (f *frame) fill(args []slot) {
	clear(f.slots[copy(f.slots, args):])
}

func (f *frame) put(l ...slot) {
	f.stack = append(f.stack, l...)
}

// putFound puts what a look at the transaction answers.
func (f *frame) putFound(text string, ok bool) {
	f.put(slot{b: text}, truth(ok))
}

// take answers the uppermost values, the top last. They stay as they are till
// something is put.
func (f *frame) take(count int) []slot {
	below := len(f.stack) - count
	l := f.stack[below:]
	f.stack = f.stack[:below]
	return l
}
