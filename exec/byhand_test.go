package exec_test

import (
	"bytes"
	"fmt"
	"hash/crc32"
	"maps"
	"math/rand"
	"slices"
	"strings"
	"testing"

	"weighhouse/api"
	"weighhouse/exec"
	"weighhouse/fast"
	"weighhouse/store"
	"weighhouse/value"
)

// plain is a machine by the chapter's words.
type plain struct {
	on         *store.Store
	index, gas int
	last       map[int]exec.Receipt
}

func newPlain() *plain {
	return &plain{on: store.New(), last: map[int]exec.Receipt{}}
}

func (p *plain) apply(q exec.Request) exec.Receipt {
	p.index++
	x := exec.Receipt{Client: q.Client, Seq: q.Seq, Index: p.index}
	if last, ok := p.last[q.Client]; ok && last.Seq == q.Seq {
		return last
	} else if ok && last.Seq > q.Seq {
		x.E = api.ErrOld
		return x
	}
	if program, e := fast.Compile(q.Code); e != api.OK {
		x.E = e
	} else {
		tx := store.Begin(p.on)
		r := program.Run(q.Args, tx)
		x.Gas, x.E, x.Out, x.Emits = r.Gas, r.E, r.Out, r.Emits
		if x.E == api.OK && tx.Commit() != api.OK {
			panic("a transaction of a store that nobody else changes")
		}
	}
	p.last[q.Client] = x
	p.gas += x.Gas
	return x
}

func (p *plain) bytes() []byte {
	var l []exec.Receipt
	for _, c := range slices.Sorted(maps.Keys(p.last)) {
		l = append(l, p.last[c])
	}
	return handMachine(p.index, p.gas, l, p.on)
}

// mill makes requests of few clients and keys, so that many come again. A client
// mostly goes on by one, and now and then stays, goes back or leaves a gap.
type mill struct {
	*rand.Rand
	clients int
	seqs    map[int]int
	codes   map[string][]byte
}

func newMill(seed int64, clients int) *mill {
	return &mill{rand.New(rand.NewSource(seed)), clients, map[int]int{}, map[string][]byte{}}
}

func (m *mill) seq(client int) int {
	last := m.seqs[client]
	next := last + 1
	switch m.Intn(10) {
	case 0, 1:
		next = max(1, last)
	case 2:
		next = 1 + m.Intn(last+1)
	case 3:
		next += 1 + m.Intn(5)
	}
	m.seqs[client] = max(last, next)
	return next
}

func (m *mill) key() api.Value {
	return value.Text(string(rune('a' + m.Intn(6))))
}

func (m *mill) value() api.Value {
	if m.Intn(30) == 0 {
		return value.Text(long)
	}
	return value.Text(strings.Repeat("v", m.Intn(4)))
}

// deeds are scripts, with arguments that mostly fit.
var deeds = []struct {
	text string
	args func(m *mill) []api.Value
}{
	{save, func(m *mill) []api.Value { return []api.Value{m.key(), m.value()} }},
	{swap, func(m *mill) []api.Value { return []api.Value{m.key(), m.value()} }},
	{wipe, func(m *mill) []api.Value { return []api.Value{m.key()} }},
	{load, func(m *mill) []api.Value { return []api.Value{m.key()} }},
	{next, func(m *mill) []api.Value { return []api.Value{m.key()} }},
	{tell, func(m *mill) []api.Value { return []api.Value{m.key()} }},
	{tell, func(m *mill) []api.Value { return []api.Value{m.value()} }},
	{count, func(m *mill) []api.Value { return nil }},
	{count, func(m *mill) []api.Value { return []api.Value{m.key()} }},
	{fill, func(m *mill) []api.Value { return []api.Value{m.key(), value.Number(64 * m.Intn(2)), m.value()} }},
	{giveUp, func(m *mill) []api.Value { return []api.Value{m.key()} }},
	{divide, func(m *mill) []api.Value { return []api.Value{m.key(), value.Number(m.Intn(3))} }},
	{save, func(m *mill) []api.Value { return []api.Value{value.Text(long), m.value()} }},
	{doNothing, func(m *mill) []api.Value { return nil }},
}

func (m *mill) code(text string) []byte {
	if m.codes[text] == nil {
		m.codes[text] = script(text)
	}
	return slices.Clone(m.codes[text])
}

// request answers one that may be; some have Code that is none.
func (m *mill) request() exec.Request {
	client := 1 + m.Intn(m.clients)
	d := deeds[m.Intn(len(deeds))]
	q := exec.Request{Client: client, Seq: m.seq(client), Code: m.code(d.text), Args: d.args(m)}
	switch m.Intn(20) {
	case 0:
		kinds := slices.Sorted(maps.Keys(notRun))
		l := notRun[kinds[m.Intn(len(kinds))]]
		q.Code = slices.Clone(l[m.Intn(len(l))])
	case 1:
		q.Code[m.Intn(len(q.Code))] ^= byte(1 << m.Intn(8))
	}
	return q
}

// tally counts receipts by their errors.
type tally map[api.Errno]int

func (n tally) wantSome(t *testing.T, least int, l ...api.Errno) {
	t.Helper()
	for _, e := range l {
		if n[e] < least {
			t.Errorf("only %d receipts tell %d", n[e], e)
		}
	}
}

// wantPlain: the machine can't be told from the plain one.
func wantPlain(t *testing.T, m *exec.Machine, p *plain) {
	t.Helper()
	want := p.bytes()
	if b := m.Bytes(); !bytes.Equal(b, want) || m.Hash() != int(crc32.ChecksumIEEE(want)) {
		t.Fatalf("at %d: %q, want %q", p.index, b, want)
	}
	wantTotals(t, m, p.index, p.gas)
	for c := range 66 {
		if x, ok := p.last[c]; ok {
			wantLast(t, m, x)
		} else {
			wantNoLast(t, m, c)
		}
	}
	for _, key := range []string{"a", "b", "c", "d", "e", "f", "n", "a\x00\x00\x00\x00\x00\x00\x00\x07", ""} {
		got, ok := m.Get(key)
		if want, there := p.on.Get(key); got != want || ok != there {
			t.Errorf("Get of %q: %q, %v, want %q, %v", key, got, ok, want, there)
		}
	}
}

// TestP1403ByHand: rows of requests, each of them looked at behind it.
func TestP1403ByHand(t *testing.T) {
	n := tally{}
	for _, clients := range []int{1, 3, 10, 64} {
		mill := newMill(int64(clients), clients)
		m, p := exec.New(), newPlain()
		for range 2000 {
			q := mill.request()
			x, want := apply(t, m, q), p.apply(q)
			wantReceipt(t, fmt.Sprintf("%+v", q), x, want)
			n[x.E]++
			wantPlain(t, m, p)
			if t.Failed() {
				t.FailNow()
			}
		}
	}
	n.wantSome(t, 10, api.OK, api.ErrOld, api.ErrScript, api.ErrShape, api.ErrStack, api.ErrType, api.ErrCall, api.ErrGas,
		api.ErrArgs, api.ErrZero, api.ErrLong, api.ErrAbort, api.ErrRoom)
}

// TestP1405ByHand: what is rejected changes no key, and takes no gas, whatever
// was there.
func TestP1405ByHand(t *testing.T) {
	mill := newMill(1405, 5)
	m, rejected := exec.New(), 0
	for range 3000 {
		q := mill.request()
		keys, gas := keyBytes(m), m.Gas()
		x := apply(t, m, q)
		if _, e := fast.Compile(q.Code); e == api.OK || x.Index != m.Index() || x.E == api.ErrOld {
			continue
		} else if rejected++; x.E != e || x.Gas != 0 || m.Gas() != gas || !bytes.Equal(keyBytes(m), keys) {
			t.Fatalf("%+v: %+v", q, x)
		}
	}
	if rejected < 100 {
		t.Error("only", rejected)
	}
}

// TestP1406Once: however often it is applied, between those of others, a script
// runs once.
func TestP1406Once(t *testing.T) {
	m := exec.New()
	r := rand.New(rand.NewSource(1406))
	kept := map[int]exec.Receipt{}
	for seq := 1; seq <= 20; seq++ {
		for range 30 {
			c := 1 + r.Intn(5)
			x := apply(t, m, request(c, seq, count))
			if was, ok := kept[c]; ok && was.Seq == seq {
				wantReceipt(t, "again", x, was)
			} else if x.Seq != seq || x.Index != m.Index() || x.E != api.OK {
				t.Errorf("%+v", x)
			}
			kept[c] = x
			wantLast(t, m, x)
		}
	}
	ran := apply(t, m, request(6, 1, count)).Out[0].N
	if most := 5*20 + 1; ran > most || ran < most-10 || m.Index() != 601 {
		t.Error(ran, m.Index())
	}
}

// TestP1406OnceByHand: a row in which requests come again and again comes to the
// same keys, gas and receipts as the row in which each stands once.
func TestP1406OnceByHand(t *testing.T) {
	for seed := range int64(20) {
		mill := newMill(seed, 4)
		often, once := exec.New(), exec.New()
		done := map[[2]int]exec.Receipt{}
		seqs := map[int]int{}
		var told []exec.Request
		for range 200 {
			q := mill.request()
			if q.Seq > seqs[q.Client] {
				seqs[q.Client] = q.Seq
				x, y := apply(t, often, q), apply(t, once, q)
				done[[2]int{q.Client, q.Seq}] = x
				y.Index = x.Index
				wantReceipt(t, "once", x, y)
				told = append(told, q)
			} else {
				apply(t, often, q)
			}
			again := told[mill.Intn(len(told))]
			x := apply(t, often, again)
			if again.Seq == seqs[again.Client] {
				wantReceipt(t, "again", x, done[[2]int{again.Client, again.Seq}])
			} else if x.E != api.ErrOld {
				t.Errorf("an old one: %+v", x)
			}
		}
		if often.Gas() != once.Gas() || !bytes.Equal(keyBytes(often), keyBytes(once)) || often.Index() != 400 {
			t.Errorf("total %d, want %d, or other keys", often.Gas(), once.Gas())
		}
	}
}

// TestP1407AllAlike: machines with the same requests in the same order, of which
// one is read out of its bytes now and then.
func TestP1407AllAlike(t *testing.T) {
	for seed := range int64(6) {
		mill := newMill(1407+seed, 2+int(seed)*10)
		a, b, c := exec.New(), exec.New(), exec.New()
		for i := range 600 {
			q := mill.request()
			x := apply(t, a, q)
			wantReceipt(t, "another machine", apply(t, b, q), x)
			if mill.Intn(5) == 0 {
				c = read(t, c.Bytes())
			}
			wantReceipt(t, "a machine that was read", apply(t, c, q), x)
			if i%20 == 0 {
				wantAlike(t, "another machine", b, a)
				wantAlike(t, "a machine that was read", c, a)
			}
		}
		wantAlike(t, "another machine at last", b, a)
		wantAlike(t, "a machine that was read at last", c, a)
	}
}

// TestP1407OtherOrder: another order may come to other bytes: the hash tells.
func TestP1407OtherOrder(t *testing.T) {
	q, r := request(1, 1, save, texts("k", "1")...), request(2, 1, save, texts("k", "2")...)
	a, b := exec.New(), exec.New()
	apply(t, a, q)
	apply(t, a, r)
	apply(t, b, r)
	apply(t, b, q)
	if a.Hash() == b.Hash() || bytes.Equal(a.Bytes(), b.Bytes()) {
		t.Error("two orders, one hash")
	}
}
