package store_test

import (
	"bytes"
	"fmt"
	"maps"
	"math/rand"
	"slices"
	"strings"
	"testing"

	"weighhouse/api"
	"weighhouse/store"
)

// plain is a store by the chapter's words, without any order of its own.
type plain map[string]string

func (p plain) put(key, value string) api.Errno {
	if len(key) > api.MaxKey || len(value) > api.MaxValue {
		return api.ErrLong
	}
	if _, ok := p[key]; !ok && len(p) >= api.MaxKeys {
		return api.ErrRoom
	}
	p[key] = value
	return api.OK
}

func (p plain) next(key string) (string, bool) {
	least, ok := "", false
	for k := range p {
		if k > key && (!ok || k < least) {
			least, ok = k, true
		}
	}
	return least, ok
}

func (p plain) scan(from, to string, most int) []store.Pair {
	var l []store.Pair
	for _, k := range slices.Sorted(maps.Keys(p)) {
		if k >= from && (to == "" || k < to) && (most == 0 || len(l) < most) && most >= 0 {
			l = append(l, store.Pair{Key: k, Value: p[k]})
		}
	}
	return l
}

func (p plain) flat() []string {
	var l []string
	for _, x := range p.scan("", "", 0) {
		l = append(l, x.Key, x.Value)
	}
	return l
}

// changes are the keys whose value is another one than in was, or none.
func (p plain) changes(was plain) []store.Pair {
	all := maps.Clone(was)
	maps.Copy(all, p)
	var l []store.Pair
	for _, k := range slices.Sorted(maps.Keys(all)) {
		now, there := p[k]
		if before, ok := was[k]; ok != there || now != before {
			l = append(l, store.Pair{Key: k, Value: now})
		}
	}
	return l
}

// mill makes keys and values of which many come again, and some are too long.
type mill struct {
	*rand.Rand
	keys int
}

func (m mill) key() string {
	switch m.Intn(60) {
	case 0:
		return ""
	case 1:
		return strings.Repeat("k", api.MaxKey+m.Intn(2))
	}
	n := m.Intn(m.keys)
	if n%8 == 0 {
		return string([]byte{byte(n * 7)})
	}
	return string([]byte{byte(n * 7), byte(n >> 3)})
}

func (m mill) value() string {
	if m.Intn(40) == 0 {
		return strings.Repeat("v", api.MaxValue+m.Intn(2))
	}
	return strings.Repeat(string(rune('a'+m.Intn(3))), m.Intn(3))
}

func sameText(t *testing.T, what, got string, ok bool, want string, there bool) {
	t.Helper()
	if got != want || ok != there {
		t.Errorf("%s: %q %v, want %q %v", what, got, ok, want, there)
	}
}

func TestP1102ByHand(t *testing.T) {
	for _, x := range []struct{ keys, deletes, steps int }{{8, 4, 3000}, {60, 3, 3000}, {300, 2, 3000}, {2000, 1, 9000}} {
		m := mill{rand.New(rand.NewSource(int64(x.keys))), x.keys}
		s, p := store.New(), plain{}
		for i := range x.steps {
			key, value := m.key(), m.value()
			if m.Intn(8) < x.deletes {
				_, want := p[key]
				if got := s.Delete(key); got != want {
					t.Fatalf("Delete(%q): %v", key, got)
				}
				delete(p, key)
			} else {
				wantErr(t, fmt.Sprintf("Put(%q, %q)", key, value), s.Put(key, value), p.put(key, value))
			}
			key = m.key()
			got, ok := s.Get(key)
			want, there := p[key]
			sameText(t, "Get of "+key, got, ok, want, there)
			got, ok = s.Next(key)
			want, there = p.next(key)
			sameText(t, "Next of "+key, got, ok, want, there)
			if i%20 == 0 {
				from, to, most := m.key(), m.key(), m.Intn(12)-1
				if got, want := s.Scan(from, to, most), p.scan(from, to, most); !slices.Equal(got, want) {
					t.Errorf("Scan(%q, %q, %d): %q, want %q", from, to, most, got, want)
				}
			}
			if i%100 == 0 {
				wantStore(t, "step by step", s, p.flat()...)
			}
			if t.Failed() {
				t.FailNow()
			}
		}
		wantStore(t, "at the end", s, p.flat()...)
	}
}

// TestP1102Orders: keys that come and go in each of some orders.
func TestP1102Orders(t *testing.T) {
	const n = 200
	orders := map[string]func(i int) int{
		"rising": func(i int) int { return i }, "falling": func(i int) int { return n - 1 - i },
		"mixed": func(i int) int { return i * 77 % n }, "from both ends": func(i int) int { return min(i, n-1-i)*2%n + i/(n/2) },
	}
	for come, in := range orders {
		for leave, out := range orders {
			s, p := store.New(), plain{}
			for i := range n {
				wantErr(t, come, s.Put(number(in(i)), number(i)), p.put(number(in(i)), number(i)))
			}
			wantStore(t, come, s, p.flat()...)
			for i := range n {
				key := number(out(i))
				if _, there := p[key]; s.Delete(key) != there {
					t.Errorf("%s, %s: Delete of %s", come, leave, key)
				}
				delete(p, key)
				if i%9 == 0 {
					wantStore(t, come+", then out "+leave, s, p.flat()...)
				}
			}
			wantStore(t, come+", then all out "+leave, s, p.flat()...)
		}
	}
}

// TestP1102ClonesByHand: many clones, each of them changed on.
func TestP1102ClonesByHand(t *testing.T) {
	m := mill{rand.New(rand.NewSource(1)), 80}
	stores, plains := []*store.Store{store.New()}, []plain{{}}
	for range 4000 {
		i := m.Intn(len(stores))
		s, p := stores[i], plains[i]
		switch m.Intn(40) {
		case 0:
			if len(stores) < 20 {
				stores, plains = append(stores, s.Clone()), append(plains, maps.Clone(p))
			}
		case 1, 2, 3, 4, 5, 6, 7, 8, 9, 10, 11, 12, 13:
			key := m.key()
			s.Delete(key)
			delete(p, key)
		default:
			key, value := m.key(), m.value()
			wantErr(t, "Put", s.Put(key, value), p.put(key, value))
		}
	}
	for i, s := range stores {
		wantStore(t, fmt.Sprint("clone ", i), s, plains[i].flat()...)
	}
}

func TestP1104ScanIsNextByNext(t *testing.T) {
	m := mill{rand.New(rand.NewSource(1104)), 500}
	for range 60 {
		s := store.New()
		for range m.Intn(300) {
			s.Put(m.key(), m.value())
			if m.Intn(3) == 0 {
				s.Delete(m.key())
			}
		}
		var l []store.Pair
		if v, ok := s.Get(""); ok {
			l = append(l, store.Pair{Value: v})
		}
		for k, ok := s.Next(""); ok; k, ok = s.Next(k) {
			v, there := s.Get(k)
			if !there {
				t.Errorf("%q is not there", k)
			}
			l = append(l, store.Pair{Key: k, Value: v})
		}
		if got := s.Scan("", "", 0); !slices.Equal(got, l) || len(l) != s.Len() {
			t.Errorf("Scan %q, Next by Next %q", got, l)
		}
		for i := 1; i < len(l); i++ {
			if l[i-1].Key >= l[i].Key {
				t.Errorf("%q ahead of %q", l[i-1].Key, l[i].Key)
			}
		}
	}
}

func TestP1105ThereAndBack(t *testing.T) {
	m := mill{rand.New(rand.NewSource(1105)), 500}
	for range 60 {
		s, p := store.New(), plain{}
		for range m.Intn(300) {
			key, value := m.key(), m.value()
			s.Put(key, value)
			p.put(key, value)
			if m.Intn(3) == 0 {
				key = m.key()
				s.Delete(key)
				delete(p, key)
			}
		}
		r, e := store.Read(s.Bytes())
		if e != api.OK || r.Hash() != s.Hash() {
			t.Fatal("error", e)
		}
		wantStore(t, "read", r, p.flat()...)
		other := store.New()
		for k, v := range p { // in any order
			other.Put(k, v)
		}
		if !bytes.Equal(other.Bytes(), s.Bytes()) || other.Hash() != s.Hash() {
			t.Error("the same pairs have other bytes")
		}
	}
}

// TestP1103ByHand: rows of calls of a transaction, held against two plain stores,
// that with the changes done and that without.
func TestP1103ByHand(t *testing.T) {
	for _, x := range []struct{ keys, begin, steps int }{{6, 3, 3000}, {40, 20, 3000}, {300, 100, 3000}, {700, 505, 6000}} {
		m := mill{rand.New(rand.NewSource(int64(x.keys))), x.keys}
		s, p := store.New(), plain{}
		for len(p) < x.begin {
			key := m.key()
			s.Put(key, "v")
			p.put(key, "v")
		}
		tx, now := store.Begin(s), maps.Clone(p)
		for i := range x.steps {
			key, value := m.key(), m.value()
			switch m.Intn(50) {
			case 0:
				wantErr(t, "Commit", tx.Commit(), api.OK)
				p = maps.Clone(now)
			case 1:
				tx, now = store.Begin(s), maps.Clone(p)
			case 2, 3, 4, 5, 6, 7, 8, 9, 10, 11, 12, 13:
				want := api.OK
				if len(key) > api.MaxKey {
					want = api.ErrLong
				}
				wantErr(t, "Wipe of "+key, tx.Wipe(key), want)
				delete(now, key)
			default:
				wantErr(t, "Save of "+key, tx.Save(key, value), now.put(key, value))
			}
			key = m.key()
			got, ok := tx.Load(key)
			want, there := now[key]
			sameText(t, "Load of "+key, got, ok, want, there)
			got, ok = tx.Next(key)
			want, there = now.next(key)
			sameText(t, "Next of "+key, got, ok, want, there)
			if i%20 == 0 {
				if got, want := tx.Changes(), now.changes(p); !slices.Equal(got, want) {
					t.Errorf("Changes %q, want %q", got, want)
				}
				wantPairs(t, "shows", shown(tx), now.flat()...)
				wantStore(t, "the store", s, p.flat()...)
			}
			if t.Failed() {
				t.FailNow()
			}
		}
	}
}

// TestP1106AllOrNothing: behind a Commit the store shows what the transaction
// showed, without one it stays.
func TestP1106AllOrNothing(t *testing.T) {
	m := mill{rand.New(rand.NewSource(1106)), 100}
	s := store.New()
	for range 400 {
		tx, was := store.Begin(s), s.Bytes()
		for range m.Intn(30) {
			if m.Intn(3) == 0 {
				tx.Wipe(m.key())
			} else {
				tx.Save(m.key(), m.value())
			}
		}
		show, changes := shown(tx), tx.Changes()
		if !bytes.Equal(s.Bytes(), was) {
			t.Fatal("the store has changed without a Commit")
		}
		if m.Intn(3) == 0 {
			continue
		}
		before := s.Clone()
		wantErr(t, "Commit", tx.Commit(), api.OK)
		if got := s.Scan("", "", 0); !slices.Equal(got, show) {
			t.Errorf("the store shows %q, the transaction %q", got, show)
		}
		wantOnlyChanged(t, before, s, changes)
	}
}

// wantOnlyChanged: each of these keys has changed, and no other one.
func wantOnlyChanged(t *testing.T, before, behind *store.Store, changes []store.Pair) {
	t.Helper()
	told := map[string]bool{}
	for _, p := range changes {
		told[p.Key] = true
	}
	for _, p := range append(before.Scan("", "", 0), behind.Scan("", "", 0)...) {
		was, there := before.Get(p.Key)
		now, is := behind.Get(p.Key)
		if changed := was != now || there != is; changed != told[p.Key] {
			t.Errorf("%q: changed %v, told %v", p.Key, changed, told[p.Key])
		}
	}
}
