package message_test

import (
	"bytes"
	"slices"
	"strings"
	"testing"
	"unsafe"

	"weighhouse/api"
	"weighhouse/message"
)

func TestP1701NilIsEmpty(t *testing.T) {
	for kind := message.Prepare; kind <= message.NewState; kind++ {
		for _, log := range [][]message.Entry{nil, {}, many(3)[:0]} {
			m := message.Message{Kind: kind, Log: log}
			if !message.Right(m) {
				t.Error(kind, "may be")
			}
			wantBytes(t, m, handMessage(message.Message{Kind: kind}))
		}
	}
	for kind := message.Views; kind <= message.Commits; kind++ {
		for _, log := range [][]message.Entry{nil, {}, many(3)[:0]} {
			r := message.Record{Kind: kind, Log: log}
			if !message.RightRecord(r) {
				t.Error(kind, "may be")
			}
			wantRecordBytes(t, r, handRecord(message.Record{Kind: kind}))
			wantFold(t, "an empty Log", []message.Record{r}, message.State{})
		}
	}
	for _, b := range [][]byte{nil, {}, handMessage(someMessage())[:0]} {
		wantForm(t, "no bytes", b)
	}
}

// roomy answers a copy of the list with room behind it that is known.
func roomy[T any](l []T, behind T) []T {
	return append(slices.Clone(l), behind, behind, behind)[:len(l)]
}

// wantRoom: neither the list nor the room behind it is another one.
func wantRoom[T comparable](t *testing.T, what string, got, want []T, behind T) {
	t.Helper()
	if whole := append(slices.Clone(want), behind, behind, behind); !slices.Equal(got[:len(whole)], whole) {
		t.Errorf("%s: what was handed in has changed: %s", what, tell(got))
	}
}

// TestP1701HandedIn: messages and records are neither changed nor kept, nor the room
// behind them.
func TestP1701HandedIn(t *testing.T) {
	behind := message.Entry{View: 77, Data: "behind"}
	m, r := someMessage(), someRecord()
	m.Log, r.Log = roomy(m.Log, behind), roomy(r.Log, behind)
	message.Right(m)
	message.RightRecord(r)
	b, _ := message.Put(m)
	c, _ := message.PutRecord(r)
	wantRoom(t, "Put", m.Log, someMessage().Log, behind)
	wantRoom(t, "PutRecord", r.Log, someRecord().Log, behind)
	spoil(m.Log, message.Entry{View: 5, Data: "spoilt"})
	spoil(r.Log, message.Entry{View: 5, Data: "spoilt"})
	if !bytes.Equal(b, handMessage(someMessage())) || !bytes.Equal(c, handRecord(someRecord())) {
		t.Error("what was written has changed with what was handed in")
	}
	m.Kind, r.Kind = 0, 0
	message.Put(m)
	message.PutRecord(r)
}

// TestP1701BytesHandedIn: they are neither changed nor kept, and the room behind them
// does not count.
func TestP1701BytesHandedIn(t *testing.T) {
	for _, whole := range [][]byte{handMessage(someMessage()), handRecord(someRecord()), []byte("none"), make([]byte, 2*api.MaxBytes)} {
		b := roomy(whole, 7)
		m, e := message.Get(b)
		r, e2 := message.GetRecord(b)
		wantRoom(t, "Get", b, whole, 7)
		spoil(b, 99)
		if e == api.OK && !sameMessage(m, someMessage()) || e2 == api.OK && !sameRecord(r, someRecord()) {
			t.Error("what was read has changed with the bytes")
		}
	}
}

// TestP1701RecordsHandedIn: a row that is folded is neither changed nor kept, nor are its
// records' logs, nor the room behind them; also not where a later one is put in their
// place, and also where no state comes of it.
func TestP1701RecordsHandedIn(t *testing.T) {
	behind := message.Entry{View: 77, Data: "behind"}
	lists := [][]message.Entry{words("a b"), words("c d e"), words("x")}
	for _, last := range []message.Record{commits(1), commits(9)} {
		l := []message.Record{logs(0, roomy(lists[0], behind)...), logs(1, roomy(lists[1], behind)...), logs(2, roomy(lists[2], behind)...), last}
		for i, list := range lists {
			l[i].Log = roomy(list, behind)
		}
		kept := slices.Clone(l)
		s, ok := message.Fold(l[:4])
		for i := range lists {
			wantRoom(t, "Fold", l[i].Log, lists[i], behind)
		}
		if !slices.EqualFunc(l, kept, sameRecord) {
			t.Error("the row has changed")
		}
		for i := range lists {
			spoil(l[i].Log, message.Entry{Data: "spoilt"})
		}
		spoil(l, message.Record{})
		if ok != (last.Op == 1) || ok && !sameState(s, message.State{Commit: 1, Log: words("a c x")}) {
			t.Error("the state has changed with the records: ", s, ok)
		}
	}
}

// TestP1701AnswersAreNew: writing all over an answer, and the room behind it, changes
// neither what was handed in nor another answer.
func TestP1701AnswersAreNew(t *testing.T) {
	m, r := someMessage(), someRecord()
	l := []message.Record{logs(0, words("a b c")...), logs(2, words("d")...)}
	for what, ask := range map[string]func() []message.Entry{
		"Get":       func() []message.Entry { m, _ := message.Get(handMessage(m)); return m.Log },
		"GetRecord": func() []message.Entry { r, _ := message.GetRecord(handRecord(r)); return r.Log },
		"Fold":      func() []message.Entry { s, _ := message.Fold(l); return s.Log },
		"Fold of one": func() []message.Entry {
			s, _ := message.Fold(l[:1])
			return s.Log
		},
	} {
		a, b := ask(), ask()
		want := slices.Clone(b)
		spoil(a, message.Entry{View: 5, Data: "spoilt"})
		if !slices.Equal(b, want) || !slices.Equal(ask(), want) {
			t.Error(what, "shares its room")
		}
	}
	wantFold(t, "the row", l, message.State{Log: words("a b d")})
	for what, ask := range map[string]func() []byte{
		"Put":       func() []byte { b, _ := message.Put(m); return b },
		"PutRecord": func() []byte { b, _ := message.PutRecord(r); return b },
	} {
		a, b := ask(), ask()
		want := slices.Clone(b)
		spoil(a, 99)
		if !bytes.Equal(b, want) || !bytes.Equal(ask(), want) {
			t.Error(what, "shares its room")
		}
	}
	if !sameMessage(m, someMessage()) || !sameRecord(r, someRecord()) {
		t.Error("what was handed in has changed")
	}
}

// TestP1701TextsAreNew: a state's Data are not those that were handed in.
func TestP1701TextsAreNew(t *testing.T) {
	data := strings.Repeat("d", 100)
	s, ok := message.Fold([]message.Record{logs(0, message.Entry{Data: data})})
	if !ok || s.Log[0].Data != data || unsafe.StringData(s.Log[0].Data) == unsafe.StringData(data) {
		t.Error("a state keeps what was handed in")
	}
}

// TestP1701Pure: what was asked ahead of it does not count.
func TestP1701Pure(t *testing.T) {
	for range 3 {
		wantBytes(t, someMessage(), handMessage(someMessage()))
		wantPutError(t, message.Message{}, api.ErrArg)
		wantForm(t, "none", []byte("none"))
		wantRecordBytes(t, someRecord(), handRecord(someRecord()))
		wantPutRecordError(t, message.Record{}, api.ErrArg)
		wantNoFold(t, "of an Op that is too great", []message.Record{someRecord()})
		wantFold(t, "of a good one", []message.Record{views(3, 2)}, message.State{View: 3, Normal: 2})
		wantFold(t, "of none", nil, message.State{})
	}
}

// TestP1701ManyAtOnce: calls at the same time don't disturb each other.
func TestP1701ManyAtOnce(t *testing.T) {
	done := make(chan bool)
	for seed := range int64(8) {
		go func() {
			defer func() { done <- true }()
			mill := newMill(seed)
			for range 100 {
				m := mill.message()
				wantBytes(t, m, handMessage(m))
				l, _ := mill.row(20)
				s, ok := plainFold(l)
				wantFoldOr(t, "at once", l, s, ok)
			}
		}()
	}
	for range 8 {
		<-done
	}
}
