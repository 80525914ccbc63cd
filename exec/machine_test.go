package exec_test

import (
	"bytes"
	"fmt"
	"hash/crc32"
	"math"
	"slices"
	"strings"
	"testing"

	"weighhouse/api"
	"weighhouse/exec"
	"weighhouse/fast"
	"weighhouse/store"
	"weighhouse/value"
)

func TestP1403Example(t *testing.T) {
	m := exec.New()
	x := apply(t, m, request(1, 1, "const x'61' / const x'62' / func -> ; / const 0 / const 1 / save"))
	wantReceipt(t, "the example", x, exec.Receipt{Client: 1, Seq: 1, Index: 1, Gas: 32})
	wantKey(t, m, "a", "b")
}

func TestP1403Empty(t *testing.T) {
	m := exec.New()
	wantTotals(t, m, 0, 0)
	wantKey(t, m, "", "-")
	wantNoLast(t, m, 1, 2, 64)
	if b := m.Bytes(); !bytes.Equal(b, make([]byte, 8+8+1+8)) || m.Hash() != int(crc32.ChecksumIEEE(b)) {
		t.Error("an empty machine:", b, m.Hash())
	}
}

// step is a request, and what comes of it and is there behind it.
type step struct {
	client, seq int
	text        string
	args        []api.Value
	index, gas  int
	e           api.Errno
	out         string
	emits       []string
}

func (s step) request() exec.Request {
	return request(s.client, s.seq, s.text, s.args...)
}

func (s step) receipt() exec.Receipt {
	return exec.Receipt{Client: s.client, Seq: s.seq, Index: s.index, Gas: s.gas, E: s.e, Out: values(s.out), Emits: s.emits}
}

// TestP1403Row: requests of several clients, one behind the other, by hand.
func TestP1403Row(t *testing.T) {
	m := exec.New()
	total := 0
	for i, s := range []step{
		{1, 1, save, texts("a", "1"), 1, 32, api.OK, "", nil},
		{2, 7, swap, texts("a", "2"), 2, 53, api.OK, "x'31' true", nil},
		{64, 1, tell, texts("a"), 3, 45, api.OK, "7", []string{"a", "2"}},
		{1, 2, load, texts("b"), 4, 21, api.OK, "x'' false", nil},
		{2, 8, save, texts("", ""), 5, 32, api.OK, "", nil},
		{3, greatest, next, texts(""), 6, 21, api.OK, "x'61' true", nil},
		{1, 3, wipe, texts("a"), 7, 42, api.OK, "true", nil},
		{64, 2, tell, texts("a"), 8, 36, api.OK, "7", []string{"a"}},
		{2, 1 << 39, load, texts(""), 9, 21, api.OK, "x'' true", nil},
		{1, 4, doNothing, nil, 10, 0, api.OK, "", nil},
	} {
		x := apply(t, m, s.request())
		wantReceipt(t, fmt.Sprint(i), x, s.receipt())
		wantLast(t, m, s.receipt())
		total += s.gas
		wantTotals(t, m, i+1, total)
	}
	wantKey(t, m, "a", "-")
	wantKey(t, m, "b", "-")
	wantKey(t, m, "", "")
	wantNoLast(t, m, 4, 5, 63)
}

// TestP1403Again: a request that was done already: its own receipt, whatever
// stands in the new one.
func TestP1403Again(t *testing.T) {
	m := exec.New()
	first := apply(t, m, request(5, 3, swap, texts("k", "1")...))
	for i, q := range []exec.Request{
		request(5, 3, swap, texts("k", "1")...), request(5, 3, swap, texts("k", "2")...), request(5, 3, giveUp, texts("k")...),
		{Client: 5, Seq: 3}, {Client: 5, Seq: 3, Code: []byte("none"), Args: values("1")},
	} {
		wantReceipt(t, "again", apply(t, m, q), first)
		wantTotals(t, m, i+2, first.Gas)
	}
	if first.Index != 1 || first.E != api.OK || first.Gas != 53 {
		t.Errorf("%+v", first)
	}
	wantLast(t, m, first)
	wantKey(t, m, "k", "1")
	wantReceipt(t, "a later one", apply(t, m, request(5, 4, swap, texts("k", "3")...)),
		exec.Receipt{Client: 5, Seq: 4, Index: 7, Gas: 53, Out: values("x'31' true")})
}

// TestP1403AgainBehindAnError: a receipt that tells an error stays, too, though
// the request would go well now.
func TestP1403AgainBehindAnError(t *testing.T) {
	m := exec.New()
	for i, q := range []exec.Request{
		{Client: 1, Seq: 1, Code: []byte("none")}, request(1, 2, giveUp, texts("k")...), request(1, 3, divide, append(texts("k"), value.Number(0))...), request(1, 4, save),
	} {
		x := apply(t, m, q)
		if x.E == api.OK {
			t.Errorf("%d: %+v", i, x)
		}
		gas := m.Gas()
		wantReceipt(t, "again", apply(t, m, request(1, q.Seq, save, texts("k", "v")...)), x)
		wantTotals(t, m, 2*i+2, gas)
		wantKey(t, m, "k", "-")
	}
}

func TestP1403Old(t *testing.T) {
	m := exec.New()
	last := apply(t, m, request(2, 9, tell, texts("k")...))
	other := apply(t, m, request(3, 4, doNothing))
	for i, seq := range []int{8, 1, 5, 8, 1} {
		q := request(2, seq, save, texts("k", "v")...)
		if i == 2 {
			q.Code, q.Args = nil, nil
		}
		wantReceipt(t, "an old one", apply(t, m, q), exec.Receipt{Client: 2, Seq: seq, Index: i + 3, E: api.ErrOld})
		wantTotals(t, m, i+3, last.Gas)
		wantLast(t, m, last)
		wantLast(t, m, other)
		wantKey(t, m, "k", "-")
	}
	// another client's Seqs are its own
	wantReceipt(t, "another client", apply(t, m, request(4, 1, doNothing)), exec.Receipt{Client: 4, Seq: 1, Index: 8})
	wantReceipt(t, "again, behind old ones", apply(t, m, request(2, 9, doNothing)), last)
}

func TestP1403Gap(t *testing.T) {
	m := exec.New()
	for i, seq := range []int{1, 2, 10, 11, 1 << 20, greatest - 1, greatest} {
		want := exec.Receipt{Client: 6, Seq: seq, Index: i + 1, Gas: 53, Out: values("x'' false")}
		if i > 0 {
			want.Out = append(texts(fmt.Sprint(i-1)), value.Truth(true))
		}
		wantReceipt(t, "behind a gap", apply(t, m, request(6, seq, swap, texts("k", fmt.Sprint(i))...)), want)
		wantLast(t, m, want)
	}
}

// TestP1403GivesUp: no key is changed, and the gas is taken.
func TestP1403GivesUp(t *testing.T) {
	m := exec.New()
	apply(t, m, request(1, 1, save, texts("k", "old")...))
	before, total := keyBytes(m), m.Gas()
	for i, c := range []struct {
		e    api.Errno
		gas  int
		text string
		args []api.Value
	}{
		{api.ErrAbort, 32 + 11 + 1 + 1, giveUp, texts("k")},
		{api.ErrZero, 26 + 11 + 1 + 1 + 4, divide, append(texts("k"), value.Number(0))},
		{api.ErrLong, 32 + 1 + 1 + 6, "func bytes bytes -> bytes ; / get 0 / get 1 / save / get 1 / get 1 / join", texts("k", long)},
		{api.ErrLong, 32 + 26, "func bytes bytes -> ; / get 0 / get 1 / save / get 1 / wipe", texts("k", strings.Repeat("x", api.MaxKey+1))},
		{api.ErrIndex, 26 + 1 + 1 + 2, "func bytes -> int ; / get 0 / wipe / get 0 / int 1 / at", texts("k")},
		{api.ErrEmit, 26 + 2 + 16*12 + 11, "func bytes -> ; / get 0 / wipe / loop 17 / get 0 / emit / end", texts("k")},
		{api.ErrArgs, 0, save, texts("k")},
		{api.ErrArgs, 0, save, values("x'6b' 1")},
	} {
		x := apply(t, m, request(1, i+2, c.text, c.args...))
		wantReceipt(t, c.text, x, exec.Receipt{Client: 1, Seq: i + 2, Index: i + 2, Gas: c.gas, E: c.e})
		wantLast(t, m, x)
		total += c.gas
		wantTotals(t, m, i+2, total)
		if !bytes.Equal(keyBytes(m), before) {
			t.Errorf("%s: the store has changed", c.text)
		}
		wantKey(t, m, "k", "old")
	}
}

// keyBytes answers the bytes of a machine's store: what stands behind its
// receipts.
func keyBytes(m *exec.Machine) []byte {
	b := m.Bytes()
	at := 17
	for range int(b[16]) {
		at += 2 + int(b[at])<<8 + int(b[at+1])
	}
	return b[at:]
}

// filled answers a machine whose store is full, with keys and values as long as
// may be, and how much gas that took.
func filled(t *testing.T, client int) (*exec.Machine, int) {
	t.Helper()
	m := exec.New()
	key := strings.Repeat("k", api.MaxKey-8)
	for i := range api.MaxKeys / 64 {
		x := apply(t, m, request(client, i+1, fill, value.Text(key), value.Number(64*i), value.Text(long)))
		wantReceipt(t, "fill", x, exec.Receipt{Client: client, Seq: i + 1, Index: i + 1, Gas: 2 + 64*47})
	}
	return m, api.MaxKeys / 64 * (2 + 64*47)
}

func TestP1403NoRoom(t *testing.T) {
	m, gas := filled(t, 1)
	before := keyBytes(m)
	x := apply(t, m, request(2, 1, "func bytes bytes -> ; / get 0 / wipe / get 0 / get 1 / save / get 1 / get 1 / save", value.Text(strings.Repeat("k", 24)+strings.Repeat("\x00", 8)), value.Text("new")))
	wantReceipt(t, "one key too many", x, exec.Receipt{Client: 2, Seq: 1, Index: 9, Gas: 90, E: api.ErrRoom})
	wantTotals(t, m, 9, gas+90)
	if !bytes.Equal(keyBytes(m), before) {
		t.Error("the store has changed")
	}
	first := value.Text(strings.Repeat("k", 24) + strings.Repeat("\x00", 8))
	x = apply(t, m, request(2, 2, "func bytes bytes -> ; / get 0 / wipe / get 1 / get 1 / save", first, value.Text("new")))
	wantReceipt(t, "one for another", x, exec.Receipt{Client: 2, Seq: 2, Index: 10, Gas: 58})
	wantKey(t, m, first.B, "-")
	wantKey(t, m, "new", "new")
	wantReceipt(t, "and one more", apply(t, m, request(3, 1, save, first, first)), exec.Receipt{Client: 3, Seq: 1, Index: 11, Gas: 32, E: api.ErrRoom})
}

// notRun are Codes that are no scripts, and scripts that are not verified, by
// what fast.Compile tells.
var notRun = map[api.Errno][][]byte{
	api.ErrScript: {nil, {}, {0}, []byte("x"), make([]byte, longest), script(save)[1:], append(script(save), 0), script(count)[:20]},
	api.ErrShape:  {script("func -> ; / true / if"), script("func -> ; / end"), script("func -> ; / true / leave")},
	api.ErrStack:  {script("func -> int ;"), script("func -> ; / int 1"), script("func -> ; / save")},
	api.ErrType:   {script("func -> int ; / true"), script("func -> ; / int 1 / int 2 / save")},
	api.ErrCall:   {script("func -> ; / call 0"), script("func -> ; / call 1 / func -> ; / call 0")},
	api.ErrGas:    {script("func -> ; / loop 64 / loop 64 / loop 64 / loop 64 / end / end / end / end")},
}

// TestP1405Rejected: a receipt that says why, no key changed, and no gas.
func TestP1405Rejected(t *testing.T) {
	m := exec.New()
	apply(t, m, request(1, 1, save, texts("k", "v")...))
	before, gas, index := keyBytes(m), m.Gas(), 1
	for e, l := range notRun {
		for _, b := range l {
			if _, got := fast.Compile(b); got != e {
				t.Fatalf("%q: error %d, want %d", b, got, e)
			}
			for _, args := range [][]api.Value{nil, texts("k", "w")} {
				index++
				x := apply(t, m, exec.Request{Client: 2, Seq: index, Code: b, Args: args})
				wantReceipt(t, "rejected", x, exec.Receipt{Client: 2, Seq: index, Index: index, E: e})
				wantLast(t, m, x)
				wantTotals(t, m, index, gas)
			}
		}
	}
	if !bytes.Equal(keyBytes(m), before) {
		t.Error("the store has changed")
	}
	wantReceipt(t, "behind them", apply(t, m, request(2, index+1, load, texts("k")...)),
		exec.Receipt{Client: 2, Seq: index + 1, Index: index + 1, Gas: 21, Out: values("x'76' true")})
}

// TestP1403LongestCode: a script of as many bytes as may be is run, one of one
// more may not be.
func TestP1403LongestCode(t *testing.T) {
	for _, n := range []int{longest - 1, longest, longest + 1} {
		q := request(1, 1, sized(n), texts("k")...)
		m := exec.New()
		x, e := m.Apply(q)
		if len(q.Code) != n {
			t.Fatal(len(q.Code))
		}
		if n > longest {
			wantErr(t, "one byte more", e, api.ErrArg)
			wantReceipt(t, "one byte more", x, exec.Receipt{})
			wantTotals(t, m, 0, 0)
		} else {
			wantErr(t, "the longest", e, api.OK)
			wantReceipt(t, "the longest", x, exec.Receipt{Client: 1, Seq: 1, Index: 1, Gas: 32})
			wantKey(t, m, "k", "k")
		}
	}
}

// sized answers the text of a script of so many bytes, by its constants.
func sized(bytes int) string {
	text := ""
	for left := bytes - len(script("func bytes -> ; / get 0 / get 0 / save")); left > 0; {
		n := min(left-2, api.MaxValue)
		text += "const " + value.Print(value.Text(long[:n])) + " / "
		left -= 2 + n
	}
	return text + "func bytes -> ; / get 0 / get 0 / save"
}

// TestP1403WrongRequests: ErrArg, and nothing has changed.
func TestP1403WrongRequests(t *testing.T) {
	m := exec.New()
	for i := range 3 {
		for _, q := range wrongRequests() {
			before := m.Bytes()
			x, e := m.Apply(q)
			wantErr(t, fmt.Sprintf("Apply of %d %d", q.Client, q.Seq), e, api.ErrArg)
			wantReceipt(t, "Apply of what may not be", x, exec.Receipt{})
			if !bytes.Equal(m.Bytes(), before) {
				t.Errorf("%d %d: the machine has changed", q.Client, q.Seq)
			}
		}
		apply(t, m, request(3, 700+i, count))
	}
}

// TestP1403RightRequests: all that may be get a receipt that may be.
func TestP1403RightRequests(t *testing.T) {
	for _, q := range rightRequests() {
		m := exec.New()
		x := apply(t, m, q)
		_, e := fast.Compile(q.Code)
		wantReceipt(t, "Apply", x, exec.Receipt{Client: q.Client, Seq: q.Seq, Index: 1, E: e})
		if _, e := exec.PutReceipt(x); e != api.OK {
			t.Errorf("%+v may not be", x)
		}
	}
}

// biggest has as much Out and as many Emits as may be.
func biggest(client int) exec.Request {
	text := "func" + strings.Repeat(" bytes", api.MaxTypes) + " ->" + strings.Repeat(" bytes", api.MaxTypes) + " ; / loop 16 / get 0 / emit / end"
	for i := range api.MaxTypes {
		text += fmt.Sprint(" / get ", i)
	}
	return request(client, greatest, text, texts(slices.Repeat([]string{long}, api.MaxTypes)...)...)
}

// TestP1404Greatest: a machine of as many bytes as may be.
func TestP1404Greatest(t *testing.T) {
	m, gas := filled(t, 64)
	for c := 64; c > 0; c-- {
		x := apply(t, m, biggest(c))
		if len(x.Out) != api.MaxTypes || len(x.Emits) != api.MaxEmits || x.Out[7].B != long || x.Emits[15] != long {
			t.Fatalf("%+v", x)
		}
		gas += x.Gas
	}
	wantTotals(t, m, 8+64, gas)
	receipt := 4*8 + 1 + 2 + 1 + api.MaxTypes*(3+api.MaxValue) + 1 + api.MaxEmits*(2+api.MaxValue)
	if n := len(m.Bytes()); n != 17+64*(2+receipt)+8+api.MaxKeys*(2+api.MaxKey+2+api.MaxValue) {
		t.Error(n, "bytes")
	}
	other := read(t, m.Bytes())
	wantAlike(t, "read", other, m)
	for c := 1; c <= 64; c++ {
		x, ok := m.Last(c)
		if !ok || x.Index != 8+65-c {
			t.Errorf("Last of %d: %d, %v", c, x.Index, ok)
		}
		wantLast(t, other, x)
	}
	wantNoLast(t, m, 0, 65, -1, math.MinInt, math.MaxInt)
}

// wantAlike: two machines can't be told apart.
func wantAlike(t *testing.T, what string, a, b *exec.Machine) {
	t.Helper()
	if !bytes.Equal(a.Bytes(), b.Bytes()) || a.Hash() != b.Hash() {
		t.Fatalf("%s: other bytes", what)
	}
	wantTotals(t, a, b.Index(), b.Gas())
	for c := 1; c <= 64; c++ {
		if x, ok := b.Last(c); ok {
			wantLast(t, a, x)
		} else {
			wantNoLast(t, a, c)
		}
	}
}

// TestP1404Bytes: by hand, with receipts of all kinds.
func TestP1404Bytes(t *testing.T) {
	m := exec.New()
	second := apply(t, m, request(9, 5, tell, texts("k")...))
	apply(t, m, request(2, 1, save, texts("k", "v")...))
	apply(t, m, request(9, 4, count))
	third := apply(t, m, request(64, 1, giveUp, texts("k")...))
	apply(t, m, request(2, 8, wipe, texts("none")...))
	apply(t, m, request(2, 9, save, texts("j", "")...))
	first := apply(t, m, exec.Request{Client: 2, Seq: 10, Code: []byte("none")})
	wantReceipt(t, "first", first, exec.Receipt{Client: 2, Seq: 10, Index: 7, E: api.ErrScript})
	gas := 36 + 32 + 45 + 42 + 32
	want := handMachine(7, gas, []exec.Receipt{first, second, third}, stored("j", "", "k", "v"))
	if b := m.Bytes(); !bytes.Equal(b, want) {
		t.Errorf("%q, want %q", b, want)
	}
	if m.Hash() != int(crc32.ChecksumIEEE(want)) {
		t.Error("Hash", m.Hash())
	}
	wantAlike(t, "read", read(t, want), m)
	wantKey(t, read(t, want), "j", "")
	wantKey(t, read(t, want), "k", "v")
}

// TestP1404ReadMayBe: bytes of machines that may be, though none was made by
// these requests alone.
func TestP1404ReadMayBe(t *testing.T) {
	x, y := with(someReceipt(), func(x *exec.Receipt) { x.Index = 12 }), with(someReceipt(), func(x *exec.Receipt) { x.Client, x.Index = 4, 20 })
	for what, b := range map[string][]byte{
		"empty":                           handMachine(0, 0, nil, store.New()),
		"an index, and no receipts":       handMachine(5, 9, nil, store.New()),
		"the index is that of a receipt":  handMachine(12, 0, []exec.Receipt{x}, store.New()),
		"the index is above a receipt's":  handMachine(13, 3, []exec.Receipt{x}, stored("a", "1")),
		"two receipts":                    handMachine(20, 3, []exec.Receipt{x, y}, stored("a", "1")),
		"the greatest index of a receipt": handMachine(greatest, 1, []exec.Receipt{with(x, func(x *exec.Receipt) { x.Index = greatest })}, store.New()),
		"all receipts that may be":        handMachine(greatest, math.MaxInt, []exec.Receipt{rightReceipts()[1], x, rightReceipts()[2]}, stored("", "")),
	} {
		m, e := exec.Read(b)
		if e != api.OK || !bytes.Equal(m.Bytes(), b) || m.Hash() != int(crc32.ChecksumIEEE(b)) {
			t.Errorf("%s: error %d, %q, want %q", what, e, m.Bytes(), b)
		}
	}
	m := read(t, handMachine(20, 3, []exec.Receipt{x, y}, stored("a", "1")))
	wantTotals(t, m, 20, 3)
	wantLast(t, m, x)
	wantLast(t, m, y)
	wantKey(t, m, "a", "1")
	wantNoLast(t, m, 1, 2, 5)
}

// wantNoMachine: none of these bytes are a machine's.
func wantNoMachine(t *testing.T, what string, b []byte) {
	t.Helper()
	if m, e := exec.Read(b); m != nil || e != api.ErrForm {
		t.Errorf("%s: %v, error %d", what, m, e)
	}
}

func TestP1404ReadMayNotBe(t *testing.T) {
	x := someReceipt()
	of := func(client, index int) exec.Receipt {
		return with(x, func(x *exec.Receipt) { x.Client, x.Index = client, index })
	}
	list := func(l ...exec.Receipt) []exec.Receipt { return l }
	empty := store.New()
	for what, b := range map[string][]byte{
		"twice the same client":       handMachine(2000, 0, list(of(3, 1), of(3, 2)), empty),
		"clients that fall":           handMachine(2000, 0, list(of(4, 1), of(3, 2)), empty),
		"clients that rise and fall":  handMachine(2000, 0, list(of(3, 1), of(9, 2), of(8, 3)), empty),
		"an index below a receipt's":  handMachine(11, 0, list(of(3, 12)), empty),
		"below the first receipt's":   handMachine(11, 0, list(of(3, 12), of(4, 1)), empty),
		"below the last receipt's":    handMachine(11, 0, list(of(3, 1), of(4, 12)), empty),
		"an index of 0 and a receipt": handMachine(0, 0, list(of(3, 1)), empty),
		"an index below 0":            handMachine(-1, 0, nil, empty),
		"the least index":             handMachine(math.MinInt, 0, nil, empty),
		"a total below 0":             handMachine(2000, -1, list(of(3, 1)), empty),
		"a total below 0, no receipt": handMachine(0, -1, nil, empty),
		"the least total":             handMachine(0, math.MinInt, nil, empty),
		"no store":                    append(handInts(0, 0), 0),
		"a store of a key too many":   slices.Concat(handInts(0, 0), []byte{0}, handInts(2), handText("a"), handText("1")),
		"a store whose keys fall":     slices.Concat(handInts(0, 0), []byte{0}, handInts(2), handText("b"), handText("1"), handText("a"), handText("1")),
		"a store as a text":           slices.Concat(handInts(0, 0), []byte{0}, handText(string(empty.Bytes()))),
		"a receipt more than told":    slices.Concat(handInts(5, 0), []byte{0}, handText(string(handReceipt(of(1, 1)))), empty.Bytes()),
		"a receipt less than told":    slices.Concat(handInts(5, 0), []byte{2}, handText(string(handReceipt(of(1, 1)))), empty.Bytes()),
		"no receipt of those told":    slices.Concat(handInts(5, 0), []byte{255}, empty.Bytes()),
		"a receipt of no bytes":       slices.Concat(handInts(5, 0), []byte{1}, handText(""), empty.Bytes()),
		"a receipt and a byte more":   slices.Concat(handInts(5, 0), []byte{1}, handText(string(handReceipt(of(1, 1)))+"\x00"), empty.Bytes()),
		"a receipt that is cut off":   slices.Concat(handInts(5, 0), []byte{1}, handText(string(handReceipt(of(1, 1))[:20])), empty.Bytes()),
		"a request as a receipt":      slices.Concat(handInts(5, 0), []byte{1}, handText(string(handRequest(someRequest()))), empty.Bytes()),
		"very many bytes":             make([]byte, 2*api.MaxBytes),
	} {
		wantNoMachine(t, what, b)
	}
	for _, x := range wrongReceipts() {
		if _, e := exec.GetReceipt(handReceipt(x)); e != api.OK {
			wantNoMachine(t, "a receipt that may not be", handMachine(greatest, 0, list(x), empty))
		}
	}
}

// someBytes are those of a machine with receipts and keys.
func someBytes() []byte {
	x, y := someReceipt(), exec.Receipt{Client: 4, Seq: 1, Index: 2}
	return handMachine(1300, 70, []exec.Receipt{x, y}, stored("", "0", "a", "1", "b", ""))
}

func TestP1404ReadCutOffOrMore(t *testing.T) {
	for _, b := range [][]byte{someBytes(), exec.New().Bytes()} {
		for n := range b {
			wantNoMachine(t, "cut off", b[:n:n])
			wantNoMachine(t, "cut off, with the rest behind it", b[:n])
		}
		wantNoMachine(t, "a byte more", append(slices.Clone(b), 0))
		wantNoMachine(t, "twice", append(slices.Clone(b), b...))
	}
}

// wantSameMachine answers whether b is a machine's bytes.
func wantSameMachine(t *testing.T, b []byte) bool {
	t.Helper()
	m, e := exec.Read(b)
	if e == api.OK && !bytes.Equal(m.Bytes(), b) || e != api.OK && (e != api.ErrForm || m != nil) {
		t.Errorf("%q is read as %q, error %d", b, m.Bytes(), e)
	}
	return e == api.OK
}

func TestP1404ReadOtherBytes(t *testing.T) {
	b, read := someBytes(), 0
	for i := range b {
		for d := 1; d < 256; d++ {
			b[i] ^= byte(d)
			if wantSameMachine(t, b) {
				read++
			}
			b[i] ^= byte(d)
		}
	}
	if read < 1000 || read > len(b)*128 {
		t.Error(read, "of", len(b)*255, "are read")
	}
}

// FuzzP1404Read: of any bytes an error, or a machine that is written as these.
func FuzzP1404Read(f *testing.F) {
	f.Add(someBytes())
	f.Add(exec.New().Bytes())
	f.Add([]byte{})
	f.Fuzz(func(t *testing.T, b []byte) { wantSameMachine(t, b) })
}

// TestP1403End: where the next index, or the total, would be none, an error is
// told and nothing is changed; ahead of that all goes on.
func TestP1403End(t *testing.T) {
	last := exec.Receipt{Client: 1, Seq: 5, Index: 7}
	for what, c := range map[string]struct {
		index, gas int
		e          api.Errno
	}{
		"ahead of the last index": {greatest - 1, 0, api.OK},
		"at the last index":       {greatest, 0, api.ErrRange},
		"behind the last index":   {greatest + 1, 0, api.ErrRange},
		"at the greatest number":  {math.MaxInt, 0, api.ErrRange},
		"ahead of the last total": {7, math.MaxInt - api.MaxGas, api.OK},
		"behind the last total":   {7, math.MaxInt - api.MaxGas + 1, api.ErrRange},
		"at the greatest total":   {7, math.MaxInt, api.ErrRange},
	} {
		m := read(t, handMachine(c.index, c.gas, []exec.Receipt{last}, store.New()))
		before := m.Bytes()
		x, e := m.Apply(request(2, 1, save, texts("k", "v")...))
		wantErr(t, what, e, c.e)
		if e == api.OK {
			wantReceipt(t, what, x, exec.Receipt{Client: 2, Seq: 1, Index: c.index + 1, Gas: 32})
			wantTotals(t, m, c.index+1, c.gas+32)
		} else if !bytes.Equal(m.Bytes(), before) || !sameReceipt(x, exec.Receipt{}) {
			t.Errorf("%s: %+v, or something has changed", what, x)
		}
		wantAlike(t, what, read(t, m.Bytes()), m)
	}
}
