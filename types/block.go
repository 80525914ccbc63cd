package types

import "iter"

// block is one that is open: the stack behind what opened it, and the one that
// must stand ahead of its end.
type block struct {
	entry, last []int
	loop        bool
}

// blocks are those that are open, the outermost first.
type blocks struct {
	list []*block
}

func (o *blocks) begin(entry []int, loop bool) {
	o.list = append(o.list, &block{entry, entry, loop})
}

// close answers the innermost block, which is open no more.
func (o *blocks) close() *block {
	b := o.innermost()
	o.list = o.list[:len(o.list)-1]
	return b
}

// outward goes through the blocks from the innermost on.
func (o *blocks) outward() iter.Seq[*block] {
	return func(yield func(*block) bool) {
		for i := len(o.list) - 1; i >= 0; i-- {
			if !yield(o.list[i]) {
				return
			}
		}
	}
}

func (o *blocks) innermost() *block {
	return o.first(func(*block) bool { return true })
}

func (o *blocks) innermostLoop() *block {
	return o.first(func(b *block) bool { return b.loop })
}

// first answers the innermost block that is wanted; nil, if there is none.
func (o *blocks) first(wanted func(*block) bool) *block {
	for b := range o.outward() {
		if wanted(b) {
			return b
		}
	}
	return nil
}
