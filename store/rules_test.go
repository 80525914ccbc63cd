package store_test

import (
	"bytes"
	"math"
	"slices"
	"strings"
	"testing"

	"weighhouse/api"
	"weighhouse/store"
)

func TestP1101NoStore(t *testing.T) {
	var zero store.Store
	for what, s := range map[string]*store.Store{"nil": nil, "not made": {}, "a zero one": &zero, "new": new(store.Store)} {
		for range 2 {
			wantErr(t, what+": Put", s.Put("a", "1"), api.ErrArg)
			wantErr(t, what+": Put of a long key", s.Put(strings.Repeat("k", 1000), ""), api.ErrArg)
			wantText(t, what+": Get", "-")(s.Get("a"))
			wantText(t, what+": Next", "-")(s.Next(""))
			if s.Delete("a") || s.Len() != 0 || s.Hash() != 0 || len(s.Bytes()) != 0 {
				t.Error(what, s.Len(), s.Hash(), s.Bytes())
			}
			for _, most := range []int{-1, 0, 1, math.MaxInt} {
				wantPairs(t, what+": Scan", s.Scan("", "", most))
			}
			if c := s.Clone(); c != nil {
				t.Error(what, "Clone", c)
			}
			if x := store.Begin(s); x != nil {
				t.Error(what, "Begin", x)
			}
		}
	}
}

func TestP1101NoTx(t *testing.T) {
	var zero store.Tx
	for what, x := range map[string]*store.Tx{"nil": nil, "not made": {}, "a zero one": &zero, "new": new(store.Tx), "begun of nil": store.Begin(nil)} {
		for range 2 {
			wantErr(t, what+": Save", x.Save("a", "1"), api.ErrArg)
			wantErr(t, what+": Save of a long key", x.Save(strings.Repeat("k", 1000), ""), api.ErrArg)
			wantErr(t, what+": Wipe", x.Wipe("a"), api.ErrArg)
			wantErr(t, what+": Wipe of a long key", x.Wipe(strings.Repeat("k", 1000)), api.ErrArg)
			wantErr(t, what+": Commit", x.Commit(), api.ErrArg)
			wantText(t, what+": Load", "-")(x.Load("a"))
			wantText(t, what+": Next", "-")(x.Next(""))
			wantPairs(t, what+": Changes", x.Changes())
		}
	}
}

func TestP1101NilIsEmpty(t *testing.T) {
	for _, b := range [][]byte{nil, {}, make([]byte, 0, 16)} {
		if s, e := store.Read(b); s != nil || e != api.ErrForm {
			t.Errorf("Read of %#v: %v, error %d", b, s, e)
		}
	}
}

// TestP1101BytesHandedIn: they are neither changed nor kept, and the room behind
// them does not count.
func TestP1101BytesHandedIn(t *testing.T) {
	for _, whole := range [][]byte{made(t, "a", "1", "b", "2").Bytes(), made(t).Bytes(), handBytes(2, "b", "1", "a", "2"), handBytes(-1)} {
		b := append(slices.Clone(whole), 7, 7, 7)[:len(whole)]
		s, e := store.Read(b)
		if !bytes.Equal(b[:len(b)+3], append(slices.Clone(whole), 7, 7, 7)) {
			t.Errorf("changed: %v", b[:len(b)+3])
		}
		clear(b)
		if e == api.OK && !bytes.Equal(s.Bytes(), whole) {
			t.Errorf("the store has changed with the bytes that it was read out of: %v", s.Bytes())
		}
	}
}

// TestP1101AnswersAreNew: writing all over an answer, and the room behind it,
// changes no store and no other answer.
func TestP1101AnswersAreNew(t *testing.T) {
	s := numbered(t, 20)
	x := store.Begin(s)
	deeds(t, s, x, "save x 1", "save y 2", "wipe key003")
	answers := []func() []store.Pair{
		func() []store.Pair { return s.Scan("", "", 0) },
		func() []store.Pair { return s.Scan("key003", "key009", 3) },
		x.Changes,
	}
	was := s.Bytes()
	for i, ask := range answers {
		other := ask()
		want := slices.Clone(other)
		l := ask()
		for j := range l[:cap(l)] {
			l[:cap(l)][j] = store.Pair{Key: "spoilt", Value: "spoilt"}
		}
		if !slices.Equal(other, want) || !slices.Equal(ask(), want) {
			t.Errorf("answer %d shares its room", i)
		}
	}
	other := s.Bytes()
	b := s.Bytes()
	for i := range b[:cap(b)] {
		b[:cap(b)][i] = 99
	}
	if !bytes.Equal(other, was) || !bytes.Equal(s.Bytes(), was) {
		t.Error("Bytes shares its room")
	}
	wantPairs(t, "Changes", x.Changes(), "key003", "", "x", "1", "y", "2")
}

// TestP1101ErrorsChangeNothing: neither the store nor the transaction.
func TestP1101ErrorsChangeNothing(t *testing.T) {
	s := numbered(t, api.MaxKeys)
	x := store.Begin(s)
	deeds(t, s, x, "wipe key004", "save new 1", "save key005 5")
	was, show, changes := s.Bytes(), shown(x), x.Changes()
	long := strings.Repeat("k", api.MaxValue+1)
	for range 3 {
		s.Put("other", "")
		s.Put(long, "")
		s.Put("key007", long)
		s.Delete("other")
		x.Save("other", "")
		x.Save("key004", "")
		x.Save(long, "")
		x.Save("key007", long)
		x.Wipe(long)
		if !bytes.Equal(s.Bytes(), was) || !slices.Equal(shown(x), show) || !slices.Equal(x.Changes(), changes) {
			t.Error("an error has changed something")
		}
	}
	deeds(t, s, x, "commit")
	wantText(t, "new", "1")(s.Get("new"))
	if s.Len() != api.MaxKeys {
		t.Error("Len", s.Len())
	}
}

// TestP1101Again: looks change nothing.
func TestP1101Again(t *testing.T) {
	s := made(t, "a", "1", "b", "2", "c", "3")
	x := store.Begin(s)
	deeds(t, s, x, "save d 4", "wipe a")
	for range 3 {
		wantStore(t, "the store", s, "a", "1", "b", "2", "c", "3")
		wantPairs(t, "a part", s.Scan("b", "", 1), "b", "2")
		wantPairs(t, "shows", shown(x), "b", "2", "c", "3", "d", "4")
		wantPairs(t, "Changes", x.Changes(), "a", "", "d", "4")
		if s.Hash() != made(t, "c", "3", "b", "2", "a", "1").Hash() {
			t.Error("Hash")
		}
	}
}

// TestP1101StoresAreApart: what is done on one store is not seen on another one.
func TestP1101StoresAreApart(t *testing.T) {
	a, b := store.New(), store.New()
	deeds(t, a, store.Begin(a), "save x 1", "put y 2")
	wantStore(t, "another store", b)
	wantStore(t, "a new store", store.New())
	read, _ := store.Read(a.Bytes())
	again, _ := store.Read(a.Bytes())
	read.Put("z", "3")
	wantStore(t, "what was read again", again, "y", "2")
	wantStore(t, "what was read from", a, "y", "2")
}

// TestP1101Huge: many calls and long texts are answered as well.
func TestP1101Huge(t *testing.T) {
	huge := strings.Repeat("h", 1<<24)
	s := made(t, "a", "1", "z", "2")
	x := store.Begin(s)
	wantErr(t, "Put", s.Put(huge, huge), api.ErrLong)
	wantErr(t, "Save", x.Save(huge, huge), api.ErrLong)
	wantErr(t, "Wipe", x.Wipe(huge), api.ErrLong)
	wantText(t, "Get", "-")(s.Get(huge))
	wantText(t, "Load", "-")(x.Load(huge))
	wantText(t, "Next", "z")(s.Next(huge))
	wantText(t, "Next", "z")(x.Next(huge))
	wantPairs(t, "Scan", s.Scan(huge, huge, math.MaxInt))
	wantNone(t, "Read", []byte(huge))
	for i := range 20000 { // keys that are not there, rising
		wantErr(t, "Wipe", x.Wipe(string([]byte{'b', byte(i >> 8), byte(i)})), api.OK)
		wantText(t, "Next", "z")(x.Next("a"))
	}
	wantPairs(t, "Changes", x.Changes())
	deeds(t, s, x, "commit")
	wantStore(t, "the store", s, "a", "1", "z", "2")
}
