package store

import (
	"iter"
	"strings"
)

// node is one of a tree: below it, linked by their places in the tree's list,
// stand lesser keys on the side 0 and greater ones on the side 1.
type node struct {
	key, value string
	links      [2]int
	height     int
}

// tree has its nodes in a list without gaps, in any order; the heights of both
// sides of a node differ by one at most. What stands at the place 0 is no node,
// so that a link of 0 leads to none, which has the height 0.
type tree struct {
	nodes []node
	root  int
}

func newTree() *tree {
	return &tree{nodes: make([]node, 1)}
}

// copied answers a tree like this one. The list is cut down to no room at all,
// so that what is appended to it lies elsewhere.
func (t *tree) copied() *tree {
	return &tree{append(t.nodes[:0:0], t.nodes...), t.root}
}

func (t *tree) count() int {
	return len(t.nodes) - 1
}

// side answers on which side of the node at that place the key stands.
func (t *tree) side(at int, key string) int {
	if key < t.nodes[at].key {
		return 0
	}
	return 1
}

// find answers the key's place, 0 if it is not there.
func (t *tree) find(key string) int {
	at := t.root
	for at != 0 && t.nodes[at].key != key {
		at = t.nodes[at].links[t.side(at, key)]
	}
	return at
}

func (t *tree) has(key string) bool {
	return t.find(key) != 0
}

func (t *tree) get(key string) (string, bool) {
	at := t.find(key)
	return t.nodes[at].value, at != 0
}

// above answers the place of the least key above that one, 0 without one.
func (t *tree) above(key string) int {
	least := 0
	for at := t.root; at != 0; {
		if t.nodes[at].key > key {
			least, at = at, t.nodes[at].links[0]
		} else {
			at = t.nodes[at].links[1]
		}
	}
	return least
}

func (t *tree) next(key string) (string, bool) {
	at := t.above(key)
	return t.nodes[at].key, at != 0
}

// rise goes through the pairs from that key on, rising; the tree must not be
// changed meanwhile.
func (t *tree) rise(from string) iter.Seq2[string, string] {
	return func(yield func(key, value string) bool) {
		at := t.find(from)
		if at == 0 {
			at = t.above(from)
		}
		for at != 0 && yield(t.nodes[at].key, t.nodes[at].value) {
			at = t.above(t.nodes[at].key)
		}
	}
}

// put gives the key the value. It takes copies: a piece of a long text would keep
// all of it.
func (t *tree) put(key, value string) {
	value = strings.Clone(value)
	if at := t.find(key); at != 0 {
		t.nodes[at].value = value
		return
	}
	t.nodes = append(t.nodes, node{key: strings.Clone(key), value: value, height: 1})
	t.root = t.with(t.root, t.count())
}

// with links the new node into the tree at that place, and answers the place of
// what is at the top of it then.
func (t *tree) with(at, added int) int {
	if at == 0 {
		return added
	}
	link := &t.nodes[at].links[t.side(at, t.nodes[added].key)]
	*link = t.with(*link, added)
	return t.balanced(at)
}

// remove lets the key go, and answers whether it was there.
func (t *tree) remove(key string) bool {
	at := t.find(key)
	if at == 0 {
		return false
	}
	t.root = t.without(t.root, at)
	t.free(at)
	return true
}

// without unlinks a node that stands in the tree at that place, and answers the
// place of what is at the top of it then.
func (t *tree) without(at, gone int) int {
	links := &t.nodes[at].links
	if at != gone {
		side := t.side(at, t.nodes[gone].key)
		links[side] = t.without(links[side], gone)
		return t.balanced(at)
	}
	if links[1] == 0 {
		return links[0]
	}
	// the next greater node takes its place
	least := t.least(links[1])
	greater := t.without(links[1], least)
	t.nodes[least].links = [2]int{links[0], greater}
	return t.balanced(least)
}

// least answers the place of the least key of the tree at that place.
func (t *tree) least(at int) int {
	for t.nodes[at].links[0] != 0 {
		at = t.nodes[at].links[0]
	}
	return at
}

// free takes an unlinked node out of the list: the last node moves to its place.
func (t *tree) free(at int) {
	last := t.count()
	if at != last {
		link := &t.root
		for *link != last {
			link = &t.nodes[*link].links[t.side(*link, t.nodes[last].key)]
		}
		*link = at
		t.nodes[at] = t.nodes[last]
	}
	t.nodes[last] = node{}
	t.nodes = t.nodes[:last]
}

// balanced measures the node at that place, whose sides are balanced and differ
// by two in height at most, turns it if they do, and answers the place of what is
// at the top then.
func (t *tree) balanced(at int) int {
	links := &t.nodes[at].links
	for side, high := range links {
		if t.nodes[high].height > t.nodes[links[1-side]].height+1 {
			inner, outer := t.nodes[high].links[1-side], t.nodes[high].links[side]
			if t.nodes[inner].height > t.nodes[outer].height {
				links[side] = t.turned(high, 1-side)
			}
			return t.turned(at, side)
		}
	}
	t.measure(at)
	return at
}

// turned lifts the node that stands on that side above the one at that place,
// and answers its place.
func (t *tree) turned(at, side int) int {
	up := t.nodes[at].links[side]
	t.nodes[at].links[side] = t.nodes[up].links[1-side]
	t.nodes[up].links[1-side] = at
	t.measure(at)
	t.measure(up)
	return up
}

func (t *tree) measure(at int) {
	links := t.nodes[at].links
	t.nodes[at].height = 1 + max(t.nodes[links[0]].height, t.nodes[links[1]].height)
}
