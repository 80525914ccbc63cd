package exec_test

import (
	"bytes"
	"math"
	"reflect"
	"slices"
	"strings"
	"testing"

	"weighhouse/api"
	"weighhouse/exec"
	"weighhouse/value"
)

func TestP1401NoMachine(t *testing.T) {
	var zero exec.Machine
	for what, m := range map[string]*exec.Machine{"nil": nil, "not made": {}, "a zero one": &zero, "new": new(exec.Machine)} {
		for range 2 {
			for _, q := range []exec.Request{{}, {Client: 1, Seq: 1}, request(1, 1, save, texts("k", "v")...)} {
				x, e := m.Apply(q)
				wantErr(t, what+": Apply", e, api.ErrArg)
				wantReceipt(t, what+": Apply", x, exec.Receipt{})
			}
			wantNoLast(t, m, 1, 64, 0, 65, math.MinInt, math.MaxInt)
			wantTotals(t, m, 0, 0)
			wantKey(t, m, "k", "-")
			if b := m.Bytes(); len(b) != 0 || m.Hash() != 0 {
				t.Error(what, b, m.Hash())
			}
		}
	}
}

// TestP1401Calls: a machine has the chapter's calls, and none of its store's by
// which keys could be changed past Apply.
func TestP1401Calls(t *testing.T) {
	var names []string
	for m := range reflect.TypeFor[*exec.Machine]().Methods() {
		names = append(names, m.Name)
	}
	if want := []string{"Apply", "Bytes", "Gas", "Get", "Hash", "Index", "Last"}; !slices.Equal(names, want) {
		t.Error(names)
	}
}

func TestP1401NilIsEmpty(t *testing.T) {
	for _, q := range []exec.Request{{Client: 1, Seq: 1}, {Client: 1, Seq: 1, Code: []byte{}, Args: []api.Value{}}} {
		b, e := exec.PutRequest(q)
		if e != api.OK || !bytes.Equal(b, handRequest(q)) || !exec.Right(q) {
			t.Errorf("%v: %v, error %d", q, b, e)
		}
		wantReceipt(t, "Apply", apply(t, exec.New(), q), exec.Receipt{Client: 1, Seq: 1, Index: 1, E: api.ErrScript})
	}
	for _, x := range []exec.Receipt{{Client: 1, Seq: 1, Index: 1}, {Client: 1, Seq: 1, Index: 1, Out: []api.Value{}, Emits: []string{}}} {
		if b, e := exec.PutReceipt(x); e != api.OK || !bytes.Equal(b, handReceipt(x)) {
			t.Errorf("%v: %v, error %d", x, b, e)
		}
	}
	for _, b := range [][]byte{nil, {}, make([]byte, 0, 30)} {
		wantForm(t, "no bytes", b)
		wantNoMachine(t, "no bytes", b)
	}
	m := exec.New()
	wantReceipt(t, "no Args", apply(t, m, request(1, 1, count)), exec.Receipt{Client: 1, Seq: 1, Index: 1, Gas: 64, Out: values("1")})
	wantReceipt(t, "empty Args", apply(t, m, exec.Request{Client: 1, Seq: 2, Code: script(count), Args: []api.Value{}}),
		exec.Receipt{Client: 1, Seq: 2, Index: 2, Gas: 67, Out: values("2")})
}

// TestP1401BytesHandedIn: they are neither changed nor kept, and the room behind
// them does not count.
func TestP1401BytesHandedIn(t *testing.T) {
	for _, whole := range [][]byte{handRequest(someRequest()), handReceipt(someReceipt()), someBytes(), []byte("none")} {
		room := append(slices.Clone(whole), 7, 7, 7)
		b := room[:len(whole)]
		q, e1 := exec.GetRequest(b)
		x, e2 := exec.GetReceipt(b)
		m, e3 := exec.Read(b)
		if !bytes.Equal(room, append(slices.Clone(whole), 7, 7, 7)) {
			t.Errorf("changed: %v", room)
		}
		spoil(room, 99)
		if e1 == api.OK && !sameRequest(q, someRequest()) || e2 == api.OK && !sameReceipt(x, someReceipt()) || e3 == api.OK && !bytes.Equal(m.Bytes(), whole) {
			t.Errorf("%v: what was read has changed with it", whole)
		}
	}
}

// roomy answers q with room behind its lists.
func roomy(q exec.Request) exec.Request {
	q.Code = append(slices.Clone(q.Code), 7, 7, 7)[:len(q.Code)]
	q.Args = append(slices.Clone(q.Args), api.Value{Type: 7}, api.Value{Type: 7})[:len(q.Args)]
	return q
}

// TestP1401RequestsHandedIn: they are neither changed nor kept, nor the room
// behind them.
func TestP1401RequestsHandedIn(t *testing.T) {
	echo := "func bytes bytes -> bytes bytes ; / get 0 / emit / get 1 / emit / get 0 / get 1 / save / get 0 / get 1"
	m, other := exec.New(), exec.New()
	for i, q := range []exec.Request{request(1, 1, echo, texts("k", "v")...), request(1, 2, giveUp, texts("k")...), {Client: 1, Seq: 3, Code: []byte("none"), Args: texts("a")}} {
		given, kept := roomy(q), roomy(q)
		exec.Right(given)
		exec.PutRequest(given)
		x := apply(t, m, given)
		if !sameRequest(given, kept) || !bytes.Equal(given.Code[:len(q.Code)+3], kept.Code[:len(q.Code)+3]) || !slices.Equal(given.Args[:len(q.Args)+2], kept.Args[:len(q.Args)+2]) {
			t.Errorf("%d: changed: %+v", i, given)
		}
		want := apply(t, other, q)
		spoil(given.Code, 99)
		spoil(given.Args, value.Text("spoilt"))
		wantReceipt(t, "the answer", x, want)
		wantLast(t, m, want)
		wantAlike(t, "the machine", m, other)
	}
}

// TestP1401ReceiptsHandedIn: they are not changed, nor the room behind them.
func TestP1401ReceiptsHandedIn(t *testing.T) {
	x := someReceipt()
	x.Out = append(x.Out, value.Number(77))[:3]
	x.Emits = append(x.Emits, "behind")[:3]
	b, _ := exec.PutReceipt(x)
	if !bytes.Equal(b, handReceipt(someReceipt())) || !sameReceipt(x, someReceipt()) || x.Out[:4][3] != value.Number(77) || x.Emits[:4][3] != "behind" {
		t.Errorf("changed: %+v", x)
	}
}

func spoilReceipt(x exec.Receipt) {
	spoil(x.Out, value.Text("spoilt"))
	spoil(x.Emits, "spoilt")
}

// TestP1401ReceiptsAnswered: writing all over an answer, and the room behind it,
// changes neither the machine nor another answer.
func TestP1401ReceiptsAnswered(t *testing.T) {
	m := exec.New()
	apply(t, m, request(1, 1, save, texts("k", "v")...))
	q := request(2, 5, tell, texts("k")...)
	want := exec.Receipt{Client: 2, Seq: 5, Index: 2, Gas: 45, Out: values("7"), Emits: []string{"k", "v"}}
	first := apply(t, m, q)
	wantReceipt(t, "Apply", first, want)
	spoilReceipt(first)
	wantLast(t, m, want)
	again, more := apply(t, m, q), apply(t, m, q)
	last, _ := m.Last(2)
	kept := read(t, m.Bytes())
	for _, x := range []exec.Receipt{again, last} {
		spoilReceipt(x)
		wantReceipt(t, "another answer", more, want)
		wantLast(t, m, want)
		wantAlike(t, "the machine", m, kept)
	}
	wantReceipt(t, "Apply again", apply(t, m, q), want)
}

// TestP1401BytesAnswered is the like of bytes, and of what is read out of them.
func TestP1401BytesAnswered(t *testing.T) {
	m := read(t, someBytes())
	for what, ask := range map[string]func() []byte{
		"Bytes":      m.Bytes,
		"PutRequest": func() []byte { b, _ := exec.PutRequest(someRequest()); return b },
		"PutReceipt": func() []byte { b, _ := exec.PutReceipt(someReceipt()); return b },
	} {
		a, b := ask(), ask()
		want := slices.Clone(b)
		spoil(a, 99)
		if !bytes.Equal(b, want) || !bytes.Equal(ask(), want) {
			t.Error(what, "shares its room")
		}
	}
	b := handRequest(someRequest())
	q, _ := exec.GetRequest(b)
	other, _ := exec.GetRequest(b)
	spoil(q.Code, 99)
	spoil(q.Args, value.Text("spoilt"))
	if !sameRequest(other, someRequest()) || !bytes.Equal(b, handRequest(someRequest())) {
		t.Error("GetRequest shares its room")
	}
	b = handReceipt(someReceipt())
	x, _ := exec.GetReceipt(b)
	more, _ := exec.GetReceipt(b)
	spoilReceipt(x)
	if !sameReceipt(more, someReceipt()) || !bytes.Equal(b, handReceipt(someReceipt())) {
		t.Error("GetReceipt shares its room")
	}
}

// TestP1401ReadIsApart: two machines that are read out of the same bytes, and the
// one that told them, go their own ways.
func TestP1401ReadIsApart(t *testing.T) {
	m := exec.New()
	apply(t, m, request(1, 1, tell, texts("k")...))
	b := m.Bytes()
	l := []*exec.Machine{m, read(t, b), read(t, b), exec.New(), exec.New()}
	for i, m := range l {
		index := 2
		if i > 2 {
			index = 1
		}
		wantReceipt(t, "apart", apply(t, m, request(1, 2, swap, texts("k", strings.Repeat("v", i))...)),
			exec.Receipt{Client: 1, Seq: 2, Index: index, Gas: 53, Out: values("x'' false")})
	}
	for i, m := range l {
		wantKey(t, m, "k", strings.Repeat("v", i))
	}
}

// TestP1401Looks: they change nothing.
func TestP1401Looks(t *testing.T) {
	m := read(t, someBytes())
	for range 3 {
		wantTotals(t, m, 1300, 70)
		wantLast(t, m, someReceipt())
		wantLast(t, m, exec.Receipt{Client: 4, Seq: 1, Index: 2})
		wantNoLast(t, m, 1, 2, 5, 64, 0, -3, 65, 3+64, 3-64, math.MaxInt, math.MinInt)
		wantKey(t, m, "", "0")
		wantKey(t, m, "a", "1")
		wantKey(t, m, "b", "")
		wantKey(t, m, "c", "-")
		wantKey(t, m, strings.Repeat("k", 1000), "-")
		if !bytes.Equal(m.Bytes(), someBytes()) {
			t.Error("changed")
		}
	}
}
