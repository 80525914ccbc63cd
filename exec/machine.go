package exec

import (
	"math"
	"slices"
	"strings"

	"weighhouse/api"
	"weighhouse/fast"
	"weighhouse/store"
	"weighhouse/wire"
)

// Machine does requests, one behind the other, on a store. One that no
// constructor made has no state. The state has a name here, as an embedded one
// would make the store's calls calls of the Machine, and change keys past Apply.
type Machine struct {
	in *state
}

// state embeds the machine's store. last has each client's last receipt at the
// client's place, with a Seq of 0 where there is none.
type state struct {
	*store.Store
	index, gas int
	last       [maxClient + 1]Receipt
}

// New answers a machine with an empty store to which nothing was applied.
func New() *Machine {
	return &Machine{&state{Store: store.New()}}
}

// Apply does q, unless its client's last receipt tells that it, or a later one,
// was done already, and answers what came of it.
func (m *Machine) Apply(q Request) (Receipt, api.Errno) {
	if !m.made() || !Right(q) {
		return Receipt{}, api.ErrArg
	}
	if m.in.ended() {
		return Receipt{}, api.ErrRange
	}
	m.in.index++
	return copied(m.in.answer(q)), api.OK
}

// Last answers the client's last receipt, and whether there is one.
func (m *Machine) Last(client int) (Receipt, bool) {
	if !m.made() || !within(1, client, maxClient) {
		return Receipt{}, false
	}
	x := m.in.last[client]
	return copied(x), x.Seq > 0
}

// Index answers how many requests were applied.
func (m *Machine) Index() int {
	if !m.made() {
		return 0
	}
	return m.in.index
}

// Gas answers how much gas all requests took.
func (m *Machine) Gas() int {
	if !m.made() {
		return 0
	}
	return m.in.gas
}

// Get answers the key's value in the store, and whether it is there.
func (m *Machine) Get(key string) (string, bool) {
	if !m.made() {
		return "", false
	}
	return m.in.Get(key)
}

// Bytes answers the machine as bytes: its index, its total of gas, the last
// receipts, their clients rising, and its store.
func (m *Machine) Bytes() []byte {
	if !m.made() {
		return nil
	}
	// No write can fail: receipts of all clients have fewer bytes than a Writer
	// takes.
	w := wire.NewWriter()
	w.Int(m.in.index, m.in.gas)
	l := m.in.receipts()
	w.Byte(len(l))
	for _, x := range l {
		w.Text(string(receiptBytes(x)))
	}
	return append(w.Bytes(), m.in.Store.Bytes()...)
}

// Hash answers the sum of the machine's bytes.
func (m *Machine) Hash() int {
	if !m.made() {
		return 0
	}
	return int(wire.Sum(m.Bytes()))
}

// Read answers the machine whose bytes b are.
func Read(b []byte) (*Machine, api.Errno) {
	var s state
	r := newReader(b)
	r.ints(&s.index, &s.gas)
	right := s.index >= 0 && s.gas >= 0 && s.keep(r.texts(r.Byte())...)
	if !right || r.Err() != api.OK {
		return nil, api.ErrForm
	}
	var e api.Errno
	s.Store, e = store.Read(b[len(b)-r.Left():])
	if e != api.OK {
		return nil, api.ErrForm
	}
	return &Machine{&s}, api.OK
}

func (m *Machine) made() bool {
	return m != nil && m.in != nil
}

// ended answers whether the machine has come to where its numbers end: no
// receipt may have the next index, or the total might wrap round. Only one that
// was read out of bytes gets there.
func (s *state) ended() bool {
	return s.index >= maxNumber || s.gas > math.MaxInt-api.MaxGas
}

// answer answers the receipt of q, whose index is there already.
func (s *state) answer(q Request) Receipt {
	last := &s.last[q.Client]
	switch {
	case q.Seq < last.Seq:
		x := s.receipt(q)
		x.E = api.ErrOld
		return x
	case q.Seq > last.Seq:
		*last = copied(s.run(q))
		s.gas += last.Gas
	}
	return *last
}

// run answers the receipt of a request that was not done yet; its changes are on
// the store, if nothing went wrong.
func (s *state) run(q Request) Receipt {
	x := s.receipt(q)
	p, e := fast.Compile(q.Code)
	if e != api.OK {
		x.E = e
		return x
	}
	t := store.Begin(s.Store)
	r := p.Run(q.Args, t)
	x.Gas, x.E = r.Gas, r.E
	if x.E == api.OK {
		x.E = t.Commit()
	}
	if x.E == api.OK {
		x.Out, x.Emits = r.Out, r.Emits
	}
	return x
}

func (s *state) receipt(q Request) Receipt {
	return Receipt{Client: q.Client, Seq: q.Seq, Index: s.index}
}

// receipts answers all clients' last receipts, the clients rising.
func (s *state) receipts() []Receipt {
	var l []Receipt
	for _, x := range s.last[1:] {
		if x.Seq > 0 {
			l = append(l, x)
		}
	}
	return l
}

// keep takes receipts' bytes, and answers whether their clients rise and none has
// an index above the machine's.
func (s *state) keep(receipts ...string) bool {
	above := 0
	for _, b := range receipts {
		x, e := GetReceipt([]byte(b))
		if e != api.OK || x.Client <= above || x.Index > s.index {
			return false
		}
		above = x.Client
		s.last[x.Client] = x
	}
	return true
}

// copied answers a receipt that shares nothing with x, not even its texts: a
// piece of a long one would keep all of it.
func copied(x Receipt) Receipt {
	x.Out, x.Emits = slices.Clone(x.Out), slices.Clone(x.Emits)
	for i := range x.Out {
		x.Out[i].B = strings.Clone(x.Out[i].B)
	}
	for i := range x.Emits {
		x.Emits[i] = strings.Clone(x.Emits[i])
	}
	return x
}
