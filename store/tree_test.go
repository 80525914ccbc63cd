package store

import (
	"fmt"
	"math/rand"
	"testing"
)

// wantSound: the tree is in order and in balance, and has all nodes of its list.
func wantSound(t *testing.T, what string, x *tree) {
	t.Helper()
	seen := 0
	var walk func(at int, low, high string) int
	walk = func(at int, low, high string) int {
		if at == 0 {
			return 0
		}
		n := x.nodes[at]
		if seen++; seen > x.count() {
			t.Fatalf("%s: a node comes twice", what)
		}
		if n.key <= low || high != "" && n.key >= high {
			t.Fatalf("%s: %q stands between %q and %q", what, n.key, low, high)
		}
		lesser, greater := walk(n.links[0], low, n.key), walk(n.links[1], n.key, high)
		if n.height != 1+max(lesser, greater) || lesser > greater+1 || greater > lesser+1 {
			t.Fatalf("%s: %q has the height %d, and %d and %d below", what, n.key, n.height, lesser, greater)
		}
		return n.height
	}
	walk(x.root, "", "")
	if seen != x.count() || x.nodes[0] != (node{}) {
		t.Fatalf("%s: %d nodes are linked, %d are in the list, %v is none", what, seen, x.count(), x.nodes[0])
	}
}

func TestP1102TreeIsSound(t *testing.T) {
	rnd := rand.New(rand.NewSource(1102))
	for _, keys := range []int{3, 10, 100, 1000} {
		x := newTree()
		for range 3000 {
			key := fmt.Sprintf("%04d", rnd.Intn(keys))
			if rnd.Intn(5) < 2 {
				x.remove(key)
			} else {
				x.put(key, "v")
			}
			wantSound(t, "mixed", x)
		}
	}
	rising, falling := newTree(), newTree()
	for i := range 1024 {
		rising.put(fmt.Sprintf("%04d", i), "v")
		falling.put(fmt.Sprintf("%04d", 2000-i), "v")
		wantSound(t, "rising", rising)
		wantSound(t, "falling", falling)
	}
	for i := range 1024 {
		rising.remove(fmt.Sprintf("%04d", i))
		falling.remove(fmt.Sprintf("%04d", 2000-i))
		wantSound(t, "rising", rising)
		wantSound(t, "falling", falling)
	}
}

// TestP1102NothingIsKept: a node that went leaves no text in the room behind the
// list, where it would be kept without need.
func TestP1102NothingIsKept(t *testing.T) {
	x := newTree()
	for i := range 100 {
		x.put(fmt.Sprint(i), "v")
	}
	for i := range 100 {
		x.remove(fmt.Sprint(i * 37 % 100))
	}
	for i, n := range x.nodes[:cap(x.nodes)] {
		if n != (node{}) {
			t.Errorf("%v is kept at %d", n, i)
		}
	}
}
