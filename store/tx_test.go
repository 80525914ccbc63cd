package store_test

import (
	"bytes"
	"strings"
	"testing"

	"weighhouse/api"
	"weighhouse/store"
)

// deed does "save k v", "wipe k" on a transaction, or "put k v", "delete k" on
// its store.
func deed(t *testing.T, s *store.Store, x *store.Tx, line string) api.Errno {
	t.Helper()
	w := append(strings.Split(line, " "), "", "")
	switch w[0] {
	case "save":
		return x.Save(w[1], w[2])
	case "wipe":
		return x.Wipe(w[1])
	case "put":
		return s.Put(w[1], w[2])
	case "delete":
		s.Delete(w[1])
		return api.OK
	case "commit":
		return x.Commit()
	}
	t.Fatal(line)
	return 0
}

func deeds(t *testing.T, s *store.Store, x *store.Tx, lines ...string) {
	t.Helper()
	for _, line := range lines {
		wantErr(t, line, deed(t, s, x, line), api.OK)
	}
}

// shown answers what a transaction shows: pair by pair, by Next and Load.
func shown(x *store.Tx) []store.Pair {
	var l []store.Pair
	if v, ok := x.Load(""); ok {
		l = append(l, store.Pair{Value: v})
	}
	for k, ok := x.Next(""); ok; k, ok = x.Next(k) {
		v, there := x.Load(k)
		if !there {
			v = "not there"
		}
		l = append(l, store.Pair{Key: k, Value: v})
	}
	return l
}

func TestP1103Table(t *testing.T) {
	for _, x := range []struct {
		lines          string
		shown, changes []string
	}{
		{"", []string{"a", "1", "c", "3"}, nil},
		{"save b 2", []string{"a", "1", "b", "2", "c", "3"}, []string{"b", "2"}},
		{"save b", []string{"a", "1", "b", "", "c", "3"}, []string{"b", ""}},
		{"save a 9", []string{"a", "9", "c", "3"}, []string{"a", "9"}},
		{"save a", []string{"a", "", "c", "3"}, []string{"a", ""}},
		{"save a 1", []string{"a", "1", "c", "3"}, nil},
		{"save a 9 / save a 1", []string{"a", "1", "c", "3"}, nil},
		{"save a 1 / save a 9", []string{"a", "9", "c", "3"}, []string{"a", "9"}},
		{"wipe a", []string{"c", "3"}, []string{"a", ""}},
		{"wipe c", []string{"a", "1"}, []string{"c", ""}},
		{"wipe c / wipe c / wipe a", nil, []string{"a", "", "c", ""}},
		{"wipe b", []string{"a", "1", "c", "3"}, nil},
		{"wipe", []string{"a", "1", "c", "3"}, nil},
		{"save  0", []string{"", "0", "a", "1", "c", "3"}, []string{"", "0"}},
		{"save ", []string{"", "", "a", "1", "c", "3"}, []string{"", ""}},
		{"save b 2 / wipe b", []string{"a", "1", "c", "3"}, nil},
		{"wipe b / save b 2", []string{"a", "1", "b", "2", "c", "3"}, []string{"b", "2"}},
		{"save a 9 / wipe a", []string{"c", "3"}, []string{"a", ""}},
		{"wipe a / save a 9", []string{"a", "9", "c", "3"}, []string{"a", "9"}},
		{"wipe a / save a 1", []string{"a", "1", "c", "3"}, nil},
		{"wipe a / save a", []string{"a", "", "c", "3"}, []string{"a", ""}},
		{"save d 4 / save b 2 / wipe c / save a 0", []string{"a", "0", "b", "2", "d", "4"}, []string{"a", "0", "b", "2", "c", "", "d", "4"}},
		{"wipe c / wipe a / save b 1", []string{"b", "1"}, []string{"a", "", "b", "1", "c", ""}},
	} {
		s := made(t, "a", "1", "c", "3")
		tx := store.Begin(s)
		if x.lines != "" {
			deeds(t, s, tx, strings.Split(x.lines, " / ")...)
		}
		wantPairs(t, x.lines+": shows", shown(tx), x.shown...)
		wantPairs(t, x.lines+": Changes", tx.Changes(), x.changes...)
		wantStore(t, x.lines+": the store", s, "a", "1", "c", "3")
		deeds(t, s, tx, "commit")
		wantStore(t, x.lines+": the store behind Commit", s, x.shown...)
		wantPairs(t, x.lines+": shows behind Commit", shown(tx), x.shown...)
		wantPairs(t, x.lines+": Changes behind Commit", tx.Changes())
		deeds(t, s, tx, "commit")
		wantStore(t, x.lines+": the store behind a second Commit", s, x.shown...)
	}
}

func TestP1103Next(t *testing.T) {
	s := made(t, "a", "1", "c", "3", "e", "5", "g", "7")
	x := store.Begin(s)
	deeds(t, s, x, "save d 4", "wipe e", "wipe c", "save b 2", "wipe b", "save g 8", "wipe z")
	for _, w := range [][2]string{{"", "a"}, {"a", "d"}, {"b", "d"}, {"cc", "d"}, {"d", "g"}, {"e", "g"}, {"f", "g"}, {"g", "-"}, {"z", "-"},
		{strings.Repeat("d", 1000), "g"}} {
		wantText(t, "Next of "+w[0], w[1])(x.Next(w[0]))
	}
	deeds(t, s, x, "wipe g", "save h 8")
	wantText(t, "Next of d", "h")(x.Next("d"))
	deeds(t, s, x, "wipe h")
	wantText(t, "Next of d", "-")(x.Next("d"))
}

func TestP1103Load(t *testing.T) {
	s := made(t, "a", "1", "b", "")
	x := store.Begin(s)
	wantText(t, "a", "1")(x.Load("a"))
	wantText(t, "b, whose value is empty", "")(x.Load("b"))
	wantText(t, "c", "-")(x.Load("c"))
	wantText(t, "a long key", "-")(x.Load(strings.Repeat("a", 1000)))
	deeds(t, s, x, "save a", "wipe b")
	wantText(t, "a, told apart from none", "")(x.Load("a"))
	wantText(t, "b, told apart from an empty value", "-")(x.Load("b"))
	wantPairs(t, "Changes", x.Changes(), "a", "", "b", "")
}

func TestP1103Long(t *testing.T) {
	key, value := strings.Repeat("k", api.MaxKey), strings.Repeat("v", api.MaxValue)
	s := made(t, "a", "1")
	x := store.Begin(s)
	wantErr(t, "the longest", x.Save(key, value), api.OK)
	wantErr(t, "a long key", x.Save(key+"k", ""), api.ErrLong)
	wantErr(t, "a long value", x.Save("a", value+"v"), api.ErrLong)
	wantErr(t, "both", x.Save(key+"k", value+"v"), api.ErrLong)
	wantErr(t, "wipe of a long key", x.Wipe(key+"k"), api.ErrLong)
	wantPairs(t, "shows", shown(x), "a", "1", key, value)
	wantPairs(t, "Changes", x.Changes(), key, value)
	wantErr(t, "wipe of the longest key", x.Wipe(key), api.OK)
	wantPairs(t, "Changes", x.Changes())
}

func TestP1103Room(t *testing.T) {
	s := numbered(t, api.MaxKeys-2)
	x := store.Begin(s)
	deeds(t, s, x, "save x 1", "save y 2", "save x 3", "save key005 5")
	for range 2 {
		wantErr(t, "a third one", x.Save("z", ""), api.ErrRoom)
		wantErr(t, "a third one too long", x.Save("z", strings.Repeat("v", api.MaxValue+1)), api.ErrLong)
	}
	wantText(t, "what had no room", "-")(x.Load("z"))
	wantPairs(t, "Changes", x.Changes(), "key005", "5", "x", "3", "y", "2")
	deeds(t, s, x, "wipe key007", "wipe key007", "wipe not", "save z 4")
	wantErr(t, "the one that went", x.Save("key007", ""), api.ErrRoom)
	deeds(t, s, x, "wipe x", "wipe x", "save key007 v")
	wantErr(t, "one more", x.Save("x", ""), api.ErrRoom)
	if s.Len() != api.MaxKeys-2 {
		t.Error("Len", s.Len())
	}
	deeds(t, s, x, "commit")
	if s.Len() != api.MaxKeys {
		t.Error("Len", s.Len())
	}
	wantErr(t, "one more behind Commit", x.Save("x", ""), api.ErrRoom)
	deeds(t, s, x, "save y 9", "wipe y", "save x 1")
	wantErr(t, "y behind it", x.Save("y", ""), api.ErrRoom)
	deeds(t, s, x, "commit")
	wantText(t, "x", "1")(s.Get("x"))
	wantText(t, "y", "-")(s.Get("y"))
}

func TestP1103RoomOfAFullStore(t *testing.T) {
	s := numbered(t, api.MaxKeys)
	x := store.Begin(s)
	wantErr(t, "a new one", x.Save("new", ""), api.ErrRoom)
	wantPairs(t, "Changes", x.Changes())
	for i := range api.MaxKeys {
		wantErr(t, "one that is there", x.Save(number(i), "w"), api.OK)
	}
	wantErr(t, "a new one", x.Save("new", ""), api.ErrRoom)
	for i := range api.MaxKeys {
		wantErr(t, "Wipe", x.Wipe(number(i)), api.OK)
	}
	wantText(t, "Next without any", "-")(x.Next(""))
	for i := range api.MaxKeys {
		wantErr(t, "another one", x.Save("other"+number(i), "o"), api.OK)
	}
	wantErr(t, "a new one", x.Save("new", ""), api.ErrRoom)
	if n := len(x.Changes()); n != 2*api.MaxKeys {
		t.Error("Changes", n)
	}
	deeds(t, s, x, "commit")
	wantText(t, "the first key", "other"+number(0))(s.Next(""))
	if s.Len() != api.MaxKeys {
		t.Error("Len", s.Len())
	}
}

// TestP1103ChangedSince: the store is changed behind a transaction's back.
func TestP1103ChangedSince(t *testing.T) {
	for _, w := range []struct {
		lines string
		want  api.Errno
	}{
		{"save x 1 / put y 1", api.ErrRoom},
		{"save x 1 / save key003 1 / put y 1", api.ErrRoom},
		{"save x 1 / put x 2", api.OK},
		{"save x 1 / put y 1 / delete y", api.OK},
		{"save x 1 / put y 1 / delete key003", api.OK},
		{"save x 1 / delete key003 / put y 1 / put z 1", api.ErrRoom},
		{"wipe key003 / save x 1 / put y 1", api.OK},
		{"wipe key003 / save x 1 / save z 1 / put y 1", api.ErrRoom},
		{"wipe key003 / save x 1 / delete key003 / put y 1 / put z 1", api.ErrRoom},
		{"save key003 1 / delete key003 / put y 1 / put z 1", api.ErrRoom},
		{"save key003 1 / put y 1", api.OK},
		{"wipe key003 / put y 1", api.OK},
		{"put y 1", api.OK},
	} {
		s := numbered(t, api.MaxKeys-1)
		x := store.Begin(s)
		deeds(t, s, x, strings.Split(w.lines, " / ")...)
		was, changes := s.Bytes(), x.Changes()
		for range 2 {
			wantErr(t, w.lines, x.Commit(), w.want)
		}
		if w.want == api.OK {
			if s.Len() > api.MaxKeys || len(x.Changes()) != 0 {
				t.Error(w.lines, s.Len(), x.Changes())
			}
			for _, p := range changes {
				if v, _ := s.Get(p.Key); v != p.Value {
					t.Errorf("%s: %q is %q", w.lines, p, v)
				}
			}
			continue
		}
		if !bytes.Equal(s.Bytes(), was) {
			t.Error(w.lines, "changed the store")
		}
		s.Delete("y")
		s.Delete("z")
		s.Delete("key010")
		wantErr(t, w.lines+", with room again", x.Commit(), api.OK)
		for _, p := range changes {
			if v, _ := s.Get(p.Key); v != p.Value {
				t.Errorf("%s: %q is %q", w.lines, p, v)
			}
		}
	}
}

// TestP1103WithoutChanges: a transaction that has no changes sees what the store
// has come to, whoever changed it.
func TestP1103WithoutChanges(t *testing.T) {
	s := made(t, "a", "1")
	x, other := store.Begin(s), store.Begin(s)
	deeds(t, s, x, "put b 2", "delete a")
	wantPairs(t, "shows", shown(x), "b", "2")
	wantPairs(t, "Changes", x.Changes())
	deeds(t, s, other, "save c 3", "commit", "wipe b", "commit")
	wantPairs(t, "shows", shown(x), "c", "3")
	wantPairs(t, "Changes", x.Changes())
	deeds(t, s, x, "commit", "save d 4", "commit")
	wantPairs(t, "the other one shows", shown(other), "c", "3", "d", "4")
	wantStore(t, "the store", s, "c", "3", "d", "4")
}

func TestP1103AgainBehindCommit(t *testing.T) {
	s := made(t, "a", "1")
	x := store.Begin(s)
	deeds(t, s, x, "save b 2", "wipe a", "commit", "put a 5", "put b 6")
	wantPairs(t, "shows", shown(x), "a", "5", "b", "6")
	deeds(t, s, x, "save a 7", "commit")
	wantStore(t, "the store", s, "a", "7", "b", "6")
}

func TestP1106WithoutACommit(t *testing.T) {
	s := made(t, "a", "1", "b", "2")
	for range 3 {
		deeds(t, s, store.Begin(s), "save a 9", "wipe b", "save c 3")
		wantStore(t, "the store", s, "a", "1", "b", "2")
		wantPairs(t, "a new transaction shows", shown(store.Begin(s)), "a", "1", "b", "2")
	}
	x := store.Begin(s)
	deeds(t, s, x, "save a 9")
	c := s.Clone()
	deeds(t, s, x, "commit")
	wantStore(t, "the clone", c, "a", "1", "b", "2")
	wantStore(t, "the store", s, "a", "9", "b", "2")
}
