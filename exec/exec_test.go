package exec_test

import (
	"bytes"
	"encoding/binary"
	"fmt"
	"slices"
	"strings"
	"testing"

	"weighhouse/api"
	"weighhouse/asm"
	"weighhouse/code"
	"weighhouse/exec"
	"weighhouse/store"
	"weighhouse/value"
)

// The scripts that the tests apply.
const (
	doNothing = "func -> ;"
	save      = "func bytes bytes -> ; / get 0 / get 1 / save"
	swap      = "func bytes bytes -> bytes bool ; / get 0 / load / get 0 / get 1 / save"
	wipe      = "func bytes -> bool ; / get 0 / has / get 0 / wipe"
	load      = "func bytes -> bytes bool ; / get 0 / load"
	next      = "func bytes -> bytes bool ; / get 0 / next"
	tell      = "func bytes -> int ; / get 0 / emit / get 0 / load / if / emit / else / drop / end / int 7"
	count     = "const x'6e' / func -> int ; int / const 0 / load / if / unpack / set 0 / else / drop / end / get 0 / int 1 / add / set 0 / const 0 / get 0 / pack / save / get 0"
	fill      = "func bytes int bytes -> ; / loop 64 / get 0 / get 1 / pack / join / get 2 / save / get 1 / int 1 / add / set 1 / end"
	giveUp    = "func bytes -> int ; / get 0 / get 0 / save / get 0 / emit / int 1 / abort"
	divide    = "func bytes int -> int ; / get 0 / wipe / get 0 / emit / int 9 / get 1 / div"
)

// script answers the bytes of a script whose lines are parted by " / ".
func script(text string) []byte {
	s, bad := asm.Parse(strings.ReplaceAll(text, " / ", "\n") + "\n")
	b, e := code.Put(s)
	if bad != 0 || e != api.OK {
		panic(fmt.Sprintf("%q: line %d, error %d", text, bad, e))
	}
	return b
}

func values(text string) []api.Value {
	l, e := value.Parse(text)
	if e != api.OK {
		panic(text)
	}
	return l
}

// texts answers each of l as Bytes.
func texts(l ...string) (all []api.Value) {
	for _, s := range l {
		all = append(all, value.Text(s))
	}
	return all
}

func request(client, seq int, text string, args ...api.Value) exec.Request {
	return exec.Request{Client: client, Seq: seq, Code: script(text), Args: args}
}

func sameRequest(a, b exec.Request) bool {
	return a.Client == b.Client && a.Seq == b.Seq && bytes.Equal(a.Code, b.Code) && slices.Equal(a.Args, b.Args)
}

func sameReceipt(a, b exec.Receipt) bool {
	return a.Client == b.Client && a.Seq == b.Seq && a.Index == b.Index && a.Gas == b.Gas && a.E == b.E &&
		slices.Equal(a.Out, b.Out) && slices.Equal(a.Emits, b.Emits)
}

func wantErr(t *testing.T, what string, got, want api.Errno) {
	t.Helper()
	if got != want {
		t.Errorf("%s: error %d, want %d", what, got, want)
	}
}

func wantReceipt(t *testing.T, what string, got, want exec.Receipt) {
	t.Helper()
	if !sameReceipt(got, want) {
		t.Errorf("%s: %+v, want %+v", what, got, want)
	}
}

// apply answers the receipt of a request that may be.
func apply(t *testing.T, m *exec.Machine, q exec.Request) exec.Receipt {
	t.Helper()
	x, e := m.Apply(q)
	if e != api.OK {
		t.Fatalf("Apply of %+v: error %d", q, e)
	}
	return x
}

// wantLast: the client's last receipt is this one.
func wantLast(t *testing.T, m *exec.Machine, want exec.Receipt) {
	t.Helper()
	x, ok := m.Last(want.Client)
	if !ok {
		t.Errorf("Last of %d: none", want.Client)
	}
	wantReceipt(t, "Last", x, want)
}

// wantNoLast: these clients have no receipt.
func wantNoLast(t *testing.T, m *exec.Machine, clients ...int) {
	t.Helper()
	for _, c := range clients {
		if x, ok := m.Last(c); ok || !sameReceipt(x, exec.Receipt{}) {
			t.Errorf("Last of %d: %+v, %v", c, x, ok)
		}
	}
}

func wantTotals(t *testing.T, m *exec.Machine, index, gas int) {
	t.Helper()
	if m.Index() != index || m.Gas() != gas {
		t.Errorf("index %d, total %d, want %d, %d", m.Index(), m.Gas(), index, gas)
	}
}

// wantKey: the key has the value; "-" stands for none.
func wantKey(t *testing.T, m *exec.Machine, key, want string) {
	t.Helper()
	v, ok := m.Get(key)
	if ok != (want != "-") || ok && v != want || !ok && v != "" {
		t.Errorf("Get of %q: %q, %v, want %q", key, v, ok, want)
	}
}

// read answers the machine of bytes that are a machine's.
func read(t *testing.T, b []byte) *exec.Machine {
	t.Helper()
	m, e := exec.Read(b)
	if e != api.OK || m == nil {
		t.Fatalf("Read: %v, error %d", m, e)
	}
	return m
}

// spoil writes all over a list and the room behind it.
func spoil[T any](l []T, with T) {
	l = l[:cap(l)]
	for i := range l {
		l[i] = with
	}
}

// What follows puts bytes together by the chapters' words.

func handInts(l ...int) (b []byte) {
	for _, n := range l {
		b = binary.BigEndian.AppendUint64(b, uint64(n))
	}
	return b
}

func handText(s string) []byte {
	return append(binary.BigEndian.AppendUint16(nil, uint16(len(s))), s...)
}

// handValues takes values that may not be, too: of those that are of no type the
// type alone is written.
func handValues(l []api.Value) []byte {
	b := []byte{byte(len(l))}
	for _, v := range l {
		b = append(b, byte(v.Type))
		switch v.Type {
		case api.Int:
			b = append(b, handInts(v.N)...)
		case api.Bytes:
			b = append(b, handText(v.B)...)
		case api.Bool:
			b = append(b, byte(v.N))
		}
	}
	return handText(string(b))
}

func handRequest(q exec.Request) []byte {
	return slices.Concat(handInts(q.Client, q.Seq), handText(string(q.Code)), handValues(q.Args))
}

func handReceipt(x exec.Receipt) []byte {
	b := slices.Concat(handInts(x.Client, x.Seq, x.Index, x.Gas), []byte{byte(x.E)}, handValues(x.Out), []byte{byte(len(x.Emits))})
	for _, s := range x.Emits {
		b = append(b, handText(s)...)
	}
	return b
}

func handMachine(index, gas int, receipts []exec.Receipt, s *store.Store) []byte {
	b := append(handInts(index, gas), byte(len(receipts)))
	for _, x := range receipts {
		b = append(b, handText(string(handReceipt(x)))...)
	}
	return append(b, s.Bytes()...)
}

// stored answers a store of keys and values.
func stored(l ...string) *store.Store {
	s := store.New()
	for i := 0; i < len(l); i += 2 {
		if e := s.Put(l[i], l[i+1]); e != api.OK {
			panic(l[i])
		}
	}
	return s
}
