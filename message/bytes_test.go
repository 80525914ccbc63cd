package message_test

import (
	"bytes"
	"fmt"
	"slices"
	"strings"
	"testing"

	"weighhouse/api"
	"weighhouse/message"
)

// TestP1702ByteByByte: as texts, so that nothing but the chapter's words stands behind
// them.
func TestP1702ByteByByte(t *testing.T) {
	m := message.Message{Kind: message.NewState, From: 1, To: 7, View: 258, Op: 3, Commit: 1 << 40, Normal: 4, Log: []message.Entry{{View: 5, Data: "ab"}, {View: 65536}}}
	wantBytes(t, m, []byte("\x08\x01\x07"+
		"\x00\x00\x00\x00\x00\x00\x01\x02"+"\x00\x00\x00\x00\x00\x00\x00\x03"+"\x00\x00\x01\x00\x00\x00\x00\x00"+"\x00\x00\x00\x00\x00\x00\x00\x04"+
		"\x00\x02"+"\x00\x00\x00\x00\x00\x00\x00\x05"+"\x00\x02ab"+"\x00\x00\x00\x00\x00\x01\x00\x00"+"\x00\x00"))
	wantBytes(t, message.Message{Kind: message.Commit, To: 2}, []byte("\x03\x00\x02"+strings.Repeat("\x00", 34)))
	r := message.Record{Kind: message.Logs, View: 258, Normal: 3, Op: 1 << 40, Log: []message.Entry{{View: 5, Data: "ab"}, {View: 65536}}}
	wantRecordBytes(t, r, []byte("\x02"+
		"\x00\x00\x00\x00\x00\x00\x01\x02"+"\x00\x00\x00\x00\x00\x00\x00\x03"+"\x00\x00\x01\x00\x00\x00\x00\x00"+
		"\x00\x02"+"\x00\x00\x00\x00\x00\x00\x00\x05"+"\x00\x02ab"+"\x00\x00\x00\x00\x00\x01\x00\x00"+"\x00\x00"))
	wantRecordBytes(t, message.Record{Kind: message.Views, View: 2, Normal: 1}, []byte("\x01\x00\x00\x00\x00\x00\x00\x00\x02\x00\x00\x00\x00\x00\x00\x00\x01"+strings.Repeat("\x00", 10)))
}

// TestP1702CountOfEntries: two bytes, the higher one first.
func TestP1702CountOfEntries(t *testing.T) {
	for n, want := range map[int]string{0: "\x00\x00", 1: "\x00\x01", 255: "\x00\xff", 256: "\x01\x00", 258: "\x01\x02", api.MaxLog: "\x08\x00"} {
		b, e := message.Put(message.Message{Kind: message.Prepare, Log: many(n)})
		if e != api.OK || string(b[messageHead:][:countSize]) != want {
			t.Errorf("%d entries: %q, error %d", n, b[messageHead:][:countSize], e)
		}
		b, e = message.PutRecord(message.Record{Kind: message.Logs, Log: many(n)})
		if e != api.OK || string(b[recordHead:][:countSize]) != want {
			t.Errorf("%d entries: %q, error %d", n, b[recordHead:][:countSize], e)
		}
	}
}

func TestP1704ThereAndBack(t *testing.T) {
	for _, m := range rightMessages() {
		wantBytes(t, m, handMessage(m))
	}
	for _, r := range rightRecords() {
		wantRecordBytes(t, r, handRecord(r))
	}
}

func TestP1702MayNotBe(t *testing.T) {
	for _, m := range wrongMessages() {
		wantPutError(t, m, api.ErrArg)
		wantNotRead(t, handMessage(m), m)
	}
	for _, r := range wrongRecords() {
		wantPutRecordError(t, r, api.ErrArg)
		wantRecordNotRead(t, handRecord(r), r)
	}
}

// wantNotRead: b tells a message that may not be, unless what can't be written was cut
// when b was put together, so that it tells another one that may be.
func wantNotRead(t *testing.T, b []byte, of message.Message) {
	t.Helper()
	m, e := message.Get(b)
	if e == api.OK && !sameMessage(m, of) && message.Right(m) && bytes.Equal(b, handMessage(m)) {
		return
	}
	if e != api.ErrForm || !sameMessage(m, message.Message{}) {
		t.Errorf("Get of %s: %s, error %d", tell(of), tell(m), e)
	}
}

func wantRecordNotRead(t *testing.T, b []byte, of message.Record) {
	t.Helper()
	r, e := message.GetRecord(b)
	if e == api.OK && !sameRecord(r, of) && message.RightRecord(r) && bytes.Equal(b, handRecord(r)) {
		return
	}
	if e != api.ErrForm || !sameRecord(r, message.Record{}) {
		t.Errorf("GetRecord of %s: %s, error %d", tell(of), tell(r), e)
	}
}

// filled answers a log whose bytes, with its count and so many ahead, are size.
func filled(ahead, size int) []message.Entry {
	var l []message.Entry
	for left := size - ahead - countSize; left > 0; {
		n := min(left-entryHead, longest)
		if rest := left - entryHead - n; rest > 0 && rest < entryHead {
			n -= entryHead
		}
		l = append(l, message.Entry{View: len(l), Data: strings.Repeat("d", n)})
		left -= entryHead + n
	}
	return l
}

// TestP1702Size: at most MaxBytes bytes, those of the last entry's View, of its Data's
// length and of its Data among them.
func TestP1702Size(t *testing.T) {
	for more := -2 * entryHead; more <= 3*entryHead; more++ {
		size := api.MaxBytes + more
		m := message.Message{Kind: message.NewState, View: 2, Log: filled(messageHead, size)}
		r := message.Record{Kind: message.Logs, Op: 3, Log: filled(recordHead, size)}
		wantSize(t, size, m, r)
		// An entry without Data at last.
		m.Log, r.Log = append(filled(messageHead, size), message.Entry{}), append(filled(recordHead, size), message.Entry{})
		wantSize(t, size+entryHead, m, r)
	}
}

func wantSize(t *testing.T, size int, m message.Message, r message.Record) {
	t.Helper()
	b, c := handMessage(m), handRecord(r)
	if len(b) != size || len(c) != size || !message.Right(m) || !message.RightRecord(r) {
		t.Fatal("the test's own bytes are ", len(b), len(c), "want ", size)
	}
	if size <= api.MaxBytes {
		wantBytes(t, m, b)
		wantRecordBytes(t, r, c)
		return
	}
	wantPutError(t, m, api.ErrSize)
	wantPutRecordError(t, r, api.ErrSize)
	wantForm(t, fmt.Sprint(size, " bytes"), b)
	wantForm(t, fmt.Sprint(size, " bytes"), c)
}

// TestP1702MuchTooMuch: the entry that is too much stands far ahead of the last one.
func TestP1702MuchTooMuch(t *testing.T) {
	for _, n := range []int{64, 65, 100, api.MaxLog} {
		log := slices.Repeat([]message.Entry{{Data: strings.Repeat("d", longest)}}, n)
		m, r := message.Message{Kind: message.DoViewChange, Log: log}, message.Record{Kind: message.Logs, Log: log}
		wantPutError(t, m, api.ErrSize)
		wantPutRecordError(t, r, api.ErrSize)
		wantForm(t, "much too much", handMessage(m))
		wantForm(t, "much too much", handRecord(r))
		// Too long, but short ones behind it.
		log = append(log, many(5)...)
		if n+5 <= api.MaxLog {
			m.Log = log
			wantPutError(t, m, api.ErrSize)
		}
		// ErrArg is named first.
		m.Log = append(log, message.Entry{View: -1})
		wantPutError(t, m, api.ErrArg)
		r.Log = m.Log
		wantPutRecordError(t, r, api.ErrArg)
	}
}

func TestP1702CutOffOrMore(t *testing.T) {
	for _, b := range [][]byte{handMessage(someMessage()), handMessage(message.Message{Kind: message.GetState}), handMessage(message.Message{Kind: message.Prepare, Log: make([]message.Entry, 3)})} {
		for n := range b {
			wantNoMessage(t, "cut off", b[:n:n])
			wantNoMessage(t, "cut off, with the rest behind it", b[:n])
		}
		for _, more := range []string{"\x00", "\x01", "\x00\x00", string(b), strings.Repeat("\x00", entryHead)} {
			wantNoMessage(t, "more", append(slices.Clone(b), more...))
		}
	}
	for _, b := range [][]byte{handRecord(someRecord()), handRecord(message.Record{Kind: message.Views}), handRecord(message.Record{Kind: message.Logs, Log: make([]message.Entry, 3)})} {
		for n := range b {
			wantNoRecord(t, "cut off", b[:n:n])
			wantNoRecord(t, "cut off, with the rest behind it", b[:n])
		}
		for _, more := range []string{"\x00", "\x01", "\x00\x00", string(b), strings.Repeat("\x00", entryHead)} {
			wantNoRecord(t, "more", append(slices.Clone(b), more...))
		}
	}
	wantForm(t, "nil", nil)
	wantForm(t, "empty", []byte{})
	wantForm(t, "zeros", make([]byte, 100))
	wantForm(t, "ones", bytes.Repeat([]byte{1}, 100))
	wantForm(t, "very many", bytes.Repeat([]byte{1}, 4*api.MaxBytes))
}

// TestP1702CountThatIsNot: a count that the bytes don't hold, or that is less than they
// do, or more than may be.
func TestP1702CountThatIsNot(t *testing.T) {
	counted := func(head []byte, count int, rest []byte) []byte {
		return slices.Concat(head, []byte{byte(count >> 8), byte(count)}, rest)
	}
	for _, kind := range []int{message.Prepare, message.PrepareOk} {
		b := handMessage(message.Message{Kind: kind})[:messageHead]
		for _, count := range []int{1, 2, 256, api.MaxLog, api.MaxLog + 1, 32768, 65535} {
			wantNoMessage(t, "no entries", counted(b, count, nil))
			wantNoMessage(t, "a byte", counted(b, count, []byte{0}))
		}
	}
	for kind := message.Views; kind <= message.Commits; kind++ {
		b := handRecord(message.Record{Kind: kind})[:recordHead]
		for _, count := range []int{1, 2, 256, api.MaxLog, api.MaxLog + 1, 32768, 65535} {
			wantNoRecord(t, "no entries", counted(b, count, nil))
			wantNoRecord(t, "a byte", counted(b, count, []byte{0}))
		}
	}
	m, r := someMessage(), someRecord()
	for _, there := range []int{2, 3, api.MaxLog - 1, api.MaxLog, api.MaxLog + 1, 65535} {
		m.Log, r.Log = many(there), many(there)
		rest := handLog(m.Log)[countSize:]
		for _, count := range []int{0, 1, 2, 3, 256, api.MaxLog - 1, api.MaxLog, api.MaxLog + 1, there - 1, there + 1, 65535} {
			b, c := counted(handMessage(m)[:messageHead], count, rest), counted(handRecord(r)[:recordHead], count, rest)
			if count == there && there <= api.MaxLog {
				wantBytes(t, m, b)
				wantRecordBytes(t, r, c)
				continue
			}
			wantNoMessage(t, fmt.Sprintf("%d entries, told as %d", there, count), b)
			wantNoRecord(t, fmt.Sprintf("%d entries, told as %d", there, count), c)
		}
	}
}

// TestP1702OtherBytes: of bytes that differ from good ones at one place, each is an
// error, or what is written as the same bytes.
func TestP1702OtherBytes(t *testing.T) {
	errors, read := 0, 0
	for _, b := range [][]byte{handMessage(someMessage()), handRecord(someRecord()), handMessage(message.Message{Kind: message.Commit, Commit: 9}), handRecord(message.Record{Kind: message.Commits, Op: 9})} {
		for i := range b {
			for d := 1; d < 256; d++ {
				b[i] ^= byte(d)
				n := wantSame(t, b)
				errors, read = errors+n, read+2-n
				b[i] ^= byte(d)
			}
		}
	}
	if errors < 1000 || read < 1000 {
		t.Error("only", errors, "errors, or", read, "that are none")
	}
}

// TestP1702OneByteAnotherOne: each byte told apart.
func TestP1702OneByteAnotherOne(t *testing.T) {
	m := message.Message{Kind: message.Prepare, From: 1, To: 2, View: 3, Op: 4, Commit: 5, Normal: 6, Log: []message.Entry{{View: 7, Data: "x"}}}
	b := handMessage(m)
	for _, c := range []struct {
		at   int
		b    byte
		want func(m *message.Message)
	}{
		{0, 0, nil}, {0, 2, nil}, {0, 3, nil}, {0, 4, nil}, {0, 7, nil}, {0, 9, nil}, {0, 255, nil},
		{0, 5, func(m *message.Message) { m.Kind = 5 }},
		{0, 6, func(m *message.Message) { m.Kind = 6 }},
		{0, 8, func(m *message.Message) { m.Kind = 8 }},
		{1, 7, func(m *message.Message) { m.From = 7 }}, {1, 8, nil}, {1, 255, nil},
		{2, 0, func(m *message.Message) { m.To = 0 }}, {2, 8, nil},
		{3, 128, nil}, {3, 255, nil}, {4, 1, nil}, {5, 1, nil}, {5, 2, nil},
		{10, 9, func(m *message.Message) { m.View = 9 }},
		{18, 9, func(m *message.Message) { m.Op = 9 }},
		{26, 9, func(m *message.Message) { m.Commit = 9 }},
		{34, 9, func(m *message.Message) { m.Normal = 9 }},
		{27, 128, nil}, {35, 1, nil}, {36, 0, nil}, {36, 2, nil},
		{37, 128, nil}, {44, 9, func(m *message.Message) { m.Log = []message.Entry{{View: 9, Data: "x"}} }},
		{45, 1, nil}, {46, 0, nil}, {46, 2, nil},
		{47, 'y', func(m *message.Message) { m.Log = []message.Entry{{View: 7, Data: "y"}} }},
	} {
		other := slices.Clone(b)
		other[c.at] = c.b
		if c.want == nil {
			wantNoMessage(t, fmt.Sprint(c.b, " at ", c.at), other)
		} else {
			wantBytes(t, with(m, c.want), other)
		}
	}
}

// wantSame answers how many of both readers tell an error.
func wantSame(t *testing.T, b []byte) (errors int) {
	t.Helper()
	if m, e := message.Get(b); e == api.OK {
		if again, e := message.Put(m); e != api.OK || !bytes.Equal(again, b) || !message.Right(m) {
			t.Errorf("%v is read as %s", b, tell(m))
		}
	} else if errors++; e != api.ErrForm || !sameMessage(m, message.Message{}) {
		t.Errorf("%v: %s, error %d", b, tell(m), e)
	}
	if r, e := message.GetRecord(b); e == api.OK {
		if again, e := message.PutRecord(r); e != api.OK || !bytes.Equal(again, b) || !message.RightRecord(r) {
			t.Errorf("%v is read as %s", b, tell(r))
		}
	} else if errors++; e != api.ErrForm || !sameRecord(r, message.Record{}) {
		t.Errorf("%v: %s, error %d", b, tell(r), e)
	}
	return errors
}

// FuzzP1702Get: of any bytes.
func FuzzP1702Get(f *testing.F) {
	for _, m := range []message.Message{someMessage(), {Kind: message.Prepare, Log: many(3)}, {Kind: message.Commit}} {
		f.Add(handMessage(m))
	}
	for _, r := range []message.Record{someRecord(), {Kind: message.Logs, Log: many(3)}, {Kind: message.Views}} {
		f.Add(handRecord(r))
	}
	f.Fuzz(func(t *testing.T, b []byte) { wantSame(t, b) })
}
