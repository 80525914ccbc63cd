package store

import (
	"slices"
	"strings"

	"weighhouse/api"
)

// Tx is a transaction. It embeds its store's tree, not the Store: that one's
// calls would become calls of the Tx, and go past its changes.
type Tx struct {
	*tree
	*changes
}

// changes has the pairs that were saved and the keys that were wiped, no key in
// both, and by how many keys more that makes the store.
type changes struct {
	saved, wiped *tree
	more         int
}

func noChanges() changes {
	return changes{saved: newTree(), wiped: newTree()}
}

// Begin answers a transaction of the store, without changes.
func Begin(s *Store) *Tx {
	if !s.made() {
		return nil
	}
	none := noChanges()
	return &Tx{s.tree, &none}
}

// Load answers the key's value, and whether it is there, with the changes done.
func (t *Tx) Load(key string) (string, bool) {
	if !t.made() || t.wiped.has(key) {
		return "", false
	}
	if value, ok := t.saved.get(key); ok {
		return value, true
	}
	return t.get(key)
}

// Save gives the key the value.
func (t *Tx) Save(key, value string) api.Errno {
	if !t.made() {
		return api.ErrArg
	}
	if isLong(key, value) {
		return api.ErrLong
	}
	if _, ok := t.Load(key); !ok {
		if t.count()+t.more >= api.MaxKeys {
			return api.ErrRoom
		}
		t.more++
	}
	t.wiped.remove(key)
	t.saved.put(key, value)
	return api.OK
}

// Wipe lets the key go, if it is there.
func (t *Tx) Wipe(key string) api.Errno {
	if !t.made() {
		return api.ErrArg
	}
	if isLong(key, "") {
		return api.ErrLong
	}
	if _, ok := t.Load(key); ok {
		t.more--
	}
	t.saved.remove(key)
	t.wiped.put(key, "")
	return api.OK
}

// Next answers the least key above that one, and whether there is one, with the
// changes done.
func (t *Tx) Next(key string) (string, bool) {
	if !t.made() {
		return "", false
	}
	kept, ok := t.next(key)
	for ok && t.wiped.has(kept) {
		kept, ok = t.next(kept)
	}
	saved, there := t.saved.next(key)
	if !there || ok && kept < saved {
		return kept, ok
	}
	return saved, true
}

// Changes answers each key that has another value than in the store, or none,
// with that value, or with "", rising.
func (t *Tx) Changes() []Pair {
	if !t.made() {
		return nil
	}
	var l []Pair
	for key, value := range t.saved.rise("") {
		if was, ok := t.get(key); !ok || was != value {
			l = append(l, Pair{key, value})
		}
	}
	for key := range t.wiped.rise("") {
		if t.has(key) {
			l = append(l, Pair{Key: key})
		}
	}
	slices.SortFunc(l, func(a, b Pair) int { return strings.Compare(a.Key, b.Key) })
	return l
}

// Commit does the changes on the store; the transaction has none then.
func (t *Tx) Commit() api.Errno {
	if !t.made() {
		return api.ErrArg
	}
	l := t.Changes()
	if t.count()+t.growth(l) > api.MaxKeys {
		return api.ErrRoom
	}
	for _, p := range l {
		if t.wiped.has(p.Key) {
			t.remove(p.Key)
		} else {
			t.put(p.Key, p.Value)
		}
	}
	*t.changes = noChanges()
	return api.OK
}

// growth answers how many keys more the store has with these changes done. It
// asks the store, which may have been changed since they were made.
func (t *Tx) growth(l []Pair) int {
	n := 0
	for _, p := range l {
		if t.wiped.has(p.Key) {
			n--
		} else if !t.has(p.Key) {
			n++
		}
	}
	return n
}

func (t *Tx) made() bool {
	return t != nil && t.tree != nil
}
