package message_test

import (
	"math"
	"slices"
	"strings"
	"testing"

	"weighhouse/api"
	"weighhouse/message"
)

var (
	kindsWithLog    = []int{message.Prepare, message.DoViewChange, message.StartView, message.NewState}
	kindsWithoutLog = []int{message.PrepareOk, message.Commit, message.StartViewChange, message.GetState}

	rightNumbers = []int{0, 1, 255, 256, 1 << 32, greatest - 1, greatest}
	wrongNumbers = []int{greatest + 1, 1 << 41, -1, math.MinInt, math.MaxInt, math.MinInt + 1}
)

func someMessage() message.Message {
	return message.Message{Kind: message.DoViewChange, From: 1, To: 2, View: 7, Op: 300, Commit: 4, Normal: 6, Log: entries(5, "first second")}
}

func someRecord() message.Record {
	return message.Record{Kind: message.Logs, View: 7, Normal: 6, Op: 300, Log: entries(5, "first second")}
}

// messageNumbers are the places of the numbers that have the same limits.
func messageNumbers(m *message.Message) []*int {
	return []*int{&m.View, &m.Op, &m.Commit, &m.Normal}
}

func recordNumbers(r *message.Record) []*int {
	return []*int{&r.View, &r.Normal, &r.Op}
}

// rightLogs may be.
func rightLogs() [][]message.Entry {
	l := [][]message.Entry{nil, {}, make([]message.Entry, 1), many(api.MaxLog), make([]message.Entry, api.MaxLog)}
	for _, n := range []int{1, 2, 255, 256, 257, api.MaxLog - 1} {
		l = append(l, many(n))
	}
	for _, n := range rightNumbers {
		l = append(l, []message.Entry{{View: n, Data: "a"}, {Data: "b"}, {View: n}})
	}
	for _, n := range []int{0, 1, 2, 255, 256, 257, longest - 1, longest} {
		l = append(l, []message.Entry{{View: 1, Data: strings.Repeat("\xfe", n)}}, []message.Entry{{}, {Data: strings.Repeat("d", n)}, {View: 3}})
	}
	return l
}

// wrongLogs may not be, each for one reason.
func wrongLogs() [][]message.Entry {
	var wrong []message.Entry
	for _, n := range wrongNumbers {
		wrong = append(wrong, message.Entry{View: n, Data: "a"}, message.Entry{View: n})
	}
	for _, n := range []int{longest + 1, longest + 2, 1 << 15, 65535, 65536, 65537, api.MaxBytes, 2 * api.MaxBytes} {
		wrong = append(wrong, message.Entry{Data: strings.Repeat("d", n)})
	}
	var l [][]message.Entry
	for _, x := range wrong {
		l = append(l, []message.Entry{x}, slices.Concat(many(3), []message.Entry{x}), slices.Concat([]message.Entry{x}, many(2)), slices.Concat(many(api.MaxLog-1), []message.Entry{x}))
	}
	for _, n := range []int{api.MaxLog + 1, api.MaxLog + 2, 1 << 12, 65535, 65536, 65537, 1 << 17} {
		l = append(l, make([]message.Entry, n), many(n))
	}
	return l
}

// rightMessages may be: at each limit, and at ordinary numbers.
func rightMessages() []message.Message {
	m := someMessage()
	l := []message.Message{m, {Kind: message.Prepare}}
	for kind := message.Prepare; kind <= message.NewState; kind++ {
		l = append(l, message.Message{Kind: kind}, message.Message{Kind: kind, From: 1, To: 2, View: 3, Op: 4, Commit: 5, Normal: 6},
			message.Message{Kind: kind, From: api.MaxID - 1, To: api.MaxID - 1, View: greatest, Op: greatest, Commit: greatest, Normal: greatest, Log: []message.Entry{}})
	}
	for _, kind := range kindsWithLog {
		for _, log := range rightLogs() {
			l = append(l, with(m, func(m *message.Message) { m.Kind, m.Log = kind, log }))
		}
	}
	for id := range api.MaxID {
		l = append(l, with(m, func(m *message.Message) { m.From = id }), with(m, func(m *message.Message) { m.To = id }))
	}
	for i := range messageNumbers(&m) {
		for _, n := range rightNumbers {
			l = append(l, with(m, func(m *message.Message) { *messageNumbers(m)[i] = n }))
		}
	}
	return l
}

// wrongMessages may not be, each for one reason.
func wrongMessages() []message.Message {
	m := someMessage()
	bare := message.Message{From: 1, To: 2, View: 3, Op: 4, Commit: 5, Normal: 6}
	l := []message.Message{{}}
	for _, kind := range []int{0, 9, 10, 255, 256, 257, -1, -8, 1<<32 + 1, math.MinInt, math.MaxInt} {
		l = append(l, with(m, func(m *message.Message) { m.Kind = kind }), with(bare, func(m *message.Message) { m.Kind = kind }))
	}
	for _, id := range []int{api.MaxID, api.MaxID + 1, -1, 128, 255, 256, 257, math.MinInt, math.MaxInt} {
		l = append(l, with(m, func(m *message.Message) { m.From = id }), with(m, func(m *message.Message) { m.To = id }))
	}
	for i := range messageNumbers(&m) {
		for _, n := range wrongNumbers {
			l = append(l, with(m, func(m *message.Message) { *messageNumbers(m)[i] = n }))
		}
	}
	for _, kind := range kindsWithoutLog {
		for _, log := range [][]message.Entry{make([]message.Entry, 1), many(1), many(2), many(api.MaxLog)} {
			l = append(l, with(bare, func(m *message.Message) { m.Kind, m.Log = kind, log }))
		}
	}
	for i, log := range wrongLogs() {
		kind := kindsWithLog[i%len(kindsWithLog)]
		l = append(l, with(m, func(m *message.Message) { m.Kind, m.Log = kind, log }))
	}
	return l
}

// rightRecords may be.
func rightRecords() []message.Record {
	r := someRecord()
	l := []message.Record{r}
	for kind := message.Views; kind <= message.Commits; kind++ {
		bare := message.Record{Kind: kind}
		l = append(l, bare, message.Record{Kind: kind, View: 2, Normal: 3, Op: 4}, message.Record{Kind: kind, View: greatest, Normal: greatest, Op: greatest, Log: []message.Entry{}})
		for i := range recordNumbers(&bare) {
			for _, n := range rightNumbers {
				l = append(l, with(bare, func(r *message.Record) { *recordNumbers(r)[i] = n }))
			}
		}
	}
	for _, log := range rightLogs() {
		l = append(l, with(r, func(r *message.Record) { r.Log = log }))
	}
	return l
}

// wrongRecords may not be, each for one reason.
func wrongRecords() []message.Record {
	r := someRecord()
	l := []message.Record{{}}
	for _, kind := range []int{0, 4, 5, 255, 256, 258, -1, -2, 1<<32 + 2, math.MinInt, math.MaxInt} {
		l = append(l, with(r, func(r *message.Record) { r.Kind = kind }), message.Record{Kind: kind})
	}
	for kind := message.Views; kind <= message.Commits; kind++ {
		bare := message.Record{Kind: kind}
		for i := range recordNumbers(&bare) {
			for _, n := range wrongNumbers {
				l = append(l, with(bare, func(r *message.Record) { *recordNumbers(r)[i] = n }))
			}
		}
	}
	for _, kind := range []int{message.Views, message.Commits} {
		for _, log := range [][]message.Entry{make([]message.Entry, 1), many(1), many(2), many(api.MaxLog)} {
			l = append(l, message.Record{Kind: kind, Log: log})
		}
	}
	for _, log := range wrongLogs() {
		l = append(l, with(r, func(r *message.Record) { r.Log = log }))
	}
	return l
}

func TestP1702Kinds(t *testing.T) {
	got := []int{message.Prepare, message.PrepareOk, message.Commit, message.StartViewChange, message.DoViewChange, message.StartView, message.GetState, message.NewState,
		message.Views, message.Logs, message.Commits}
	if !slices.Equal(got, []int{1, 2, 3, 4, 5, 6, 7, 8, 1, 2, 3}) {
		t.Error(got)
	}
}

func TestP1702Right(t *testing.T) {
	for _, m := range rightMessages() {
		if !message.Right(m) {
			t.Error("may be: ", tell(m))
		}
	}
	for _, m := range wrongMessages() {
		if message.Right(m) {
			t.Error("may not be: ", tell(m))
		}
	}
}

func TestP1702RightRecord(t *testing.T) {
	for _, r := range rightRecords() {
		if !message.RightRecord(r) {
			t.Error("may be: ", tell(r))
		}
	}
	for _, r := range wrongRecords() {
		if message.RightRecord(r) {
			t.Error("may not be: ", tell(r))
		}
	}
}

// TestP1702RightButTooMuch: how many bytes there would be does not count.
func TestP1702RightButTooMuch(t *testing.T) {
	log := slices.Repeat([]message.Entry{{View: greatest, Data: strings.Repeat("d", longest)}}, api.MaxLog)
	if !message.Right(message.Message{Kind: message.StartView, Log: log}) || !message.RightRecord(message.Record{Kind: message.Logs, Log: log}) {
		t.Error("the longest log may be")
	}
}
