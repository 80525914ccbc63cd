package message_test

import (
	"encoding/binary"
	"fmt"
	"slices"
	"strings"
	"testing"

	"weighhouse/api"
	"weighhouse/message"
)

const (
	greatest = 1 << 40 // of numbers
	longest  = 16384   // Data

	messageHead = 3 + 4*8 // bytes ahead of a message's Log
	recordHead  = 1 + 3*8
	countSize   = 2
	entryHead   = 8 + 2
)

// with answers what f makes of x.
func with[T any](x T, f func(x *T)) T {
	f(&x)
	return x
}

// entries answers one of each word, in views from view on.
func entries(view int, words string) []message.Entry {
	var l []message.Entry
	for i, s := range strings.Fields(words) {
		l = append(l, message.Entry{View: view + i, Data: s})
	}
	return l
}

// many answers n entries, no two of them alike.
func many(n int) []message.Entry {
	l := make([]message.Entry, n)
	for i := range l {
		l[i] = message.Entry{View: i, Data: fmt.Sprint(n, " ", i)}
	}
	return l
}

func handInts(l ...int) []byte {
	var b []byte
	for _, n := range l {
		b = binary.BigEndian.AppendUint64(b, uint64(n))
	}
	return b
}

func handLog(l []message.Entry) []byte {
	b := binary.BigEndian.AppendUint16(nil, uint16(len(l)))
	for _, x := range l {
		b = append(b, handInts(x.View)...)
		b = binary.BigEndian.AppendUint16(b, uint16(len(x.Data)))
		b = append(b, x.Data...)
	}
	return b
}

// handMessage writes a message by the chapter's words, whether it may be or not: what
// is too great for its bytes is cut.
func handMessage(m message.Message) []byte {
	return slices.Concat([]byte{byte(m.Kind), byte(m.From), byte(m.To)}, handInts(m.View, m.Op, m.Commit, m.Normal), handLog(m.Log))
}

func handRecord(r message.Record) []byte {
	return slices.Concat([]byte{byte(r.Kind)}, handInts(r.View, r.Normal, r.Op), handLog(r.Log))
}

func sameMessage(a, b message.Message) bool {
	return a.Kind == b.Kind && a.From == b.From && a.To == b.To && a.View == b.View && a.Op == b.Op &&
		a.Commit == b.Commit && a.Normal == b.Normal && slices.Equal(a.Log, b.Log)
}

func sameRecord(a, b message.Record) bool {
	return a.Kind == b.Kind && a.View == b.View && a.Normal == b.Normal && a.Op == b.Op && slices.Equal(a.Log, b.Log)
}

func sameState(a, b message.State) bool {
	return a.View == b.View && a.Normal == b.Normal && a.Commit == b.Commit && slices.Equal(a.Log, b.Log)
}

// tell shortens what may be very long.
func tell(x any) string {
	s := strings.ToValidUTF8(fmt.Sprintf("%+v", x), "?")
	if len(s) > 300 {
		return s[:300] + ".."
	}
	return s
}

// wantForm: none of these bytes are a message's or a record's.
func wantForm(t *testing.T, what string, b []byte) {
	t.Helper()
	wantNoMessage(t, what, b)
	wantNoRecord(t, what, b)
}

func wantNoMessage(t *testing.T, what string, b []byte) {
	t.Helper()
	if m, e := message.Get(b); e != api.ErrForm || !sameMessage(m, message.Message{}) {
		t.Errorf("%s: Get: %s, error %d", what, tell(m), e)
	}
}

func wantNoRecord(t *testing.T, what string, b []byte) {
	t.Helper()
	if r, e := message.GetRecord(b); e != api.ErrForm || !sameRecord(r, message.Record{}) {
		t.Errorf("%s: GetRecord: %s, error %d", what, tell(r), e)
	}
}

// wantBytes: m is written as these bytes, and read again.
func wantBytes(t *testing.T, m message.Message, want []byte) {
	t.Helper()
	b, e := message.Put(m)
	if e != api.OK || !slices.Equal(b, want) {
		t.Errorf("Put of %s: %s, error %d", tell(m), tell(b), e)
	}
	if got, e := message.Get(want); e != api.OK || !sameMessage(got, m) {
		t.Errorf("Get: %s, error %d, want %s", tell(got), e, tell(m))
	}
}

func wantRecordBytes(t *testing.T, r message.Record, want []byte) {
	t.Helper()
	b, e := message.PutRecord(r)
	if e != api.OK || !slices.Equal(b, want) {
		t.Errorf("PutRecord of %s: %s, error %d", tell(r), tell(b), e)
	}
	if got, e := message.GetRecord(want); e != api.OK || !sameRecord(got, r) {
		t.Errorf("GetRecord: %s, error %d, want %s", tell(got), e, tell(r))
	}
}

// wantPutError: m is not written, for this reason.
func wantPutError(t *testing.T, m message.Message, want api.Errno) {
	t.Helper()
	if b, e := message.Put(m); e != want || len(b) != 0 {
		t.Errorf("Put of %s: %d bytes, error %d, want %d", tell(m), len(b), e, want)
	}
}

func wantPutRecordError(t *testing.T, r message.Record, want api.Errno) {
	t.Helper()
	if b, e := message.PutRecord(r); e != want || len(b) != 0 {
		t.Errorf("PutRecord of %s: %d bytes, error %d, want %d", tell(r), len(b), e, want)
	}
}

// wantFold: the records tell this state.
func wantFold(t *testing.T, what string, l []message.Record, want message.State) {
	t.Helper()
	if s, ok := message.Fold(l); !ok || !sameState(s, want) {
		t.Errorf("%s: %s, %v, want %s", what, tell(s), ok, tell(want))
	}
}

// wantNoFold: the records tell no state.
func wantNoFold(t *testing.T, what string, l []message.Record) {
	t.Helper()
	if s, ok := message.Fold(l); ok || !sameState(s, message.State{}) {
		t.Errorf("%s: %s, %v", what, tell(s), ok)
	}
}

// spoil writes all over a list, and the room behind it.
func spoil[T any](l []T, x T) {
	l = l[:cap(l)]
	for i := range l {
		l[i] = x
	}
}
