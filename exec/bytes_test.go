package exec_test

import (
	"bytes"
	"math"
	"slices"
	"strings"
	"testing"

	"weighhouse/api"
	"weighhouse/exec"
	"weighhouse/value"
)

const (
	greatest = 1<<40 - 1 // of a Seq and an Index
	longest  = 8192      // Code
)

var (
	long    = strings.Repeat("v", api.MaxValue)
	tooLong = long + "v"
)

// wrongValues may not be.
var wrongValues = []api.Value{
	{}, {Type: 4}, {Type: -1}, {Type: 256 + api.Int},
	{Type: api.Int, B: "a"}, {Type: api.Bytes, N: 1}, {Type: api.Bytes, B: tooLong},
	{Type: api.Bool, N: 2}, {Type: api.Bool, N: -1}, {Type: api.Bool, B: "a"},
}

func ints(n int) []api.Value {
	return slices.Repeat([]api.Value{value.Number(5)}, n)
}

// with answers what f makes of x.
func with[T any](x T, f func(x *T)) T {
	f(&x)
	return x
}

func someRequest() exec.Request {
	return exec.Request{Client: 3, Seq: 700, Code: []byte("code"), Args: values("-5 x'6162' true")}
}

func someReceipt() exec.Receipt {
	return exec.Receipt{Client: 3, Seq: 700, Index: 1234, Gas: 56, E: api.ErrZero, Out: values("9 x'6f' false"), Emits: []string{"ab", "", "c"}}
}

// rightRequests may be: at each limit, and at ordinary numbers.
func rightRequests() []exec.Request {
	q := someRequest()
	l := []exec.Request{q, {Client: 1, Seq: 1}, {Client: 64, Seq: greatest, Code: make([]byte, longest), Args: texts(slices.Repeat([]string{long}, api.MaxTypes)...)}}
	for _, n := range []int{1, 2, 63, 64} {
		l = append(l, with(q, func(q *exec.Request) { q.Client = n }))
	}
	for _, n := range []int{1, 2, 255, 1 << 32, greatest - 1, greatest} {
		l = append(l, with(q, func(q *exec.Request) { q.Seq = n }))
	}
	for _, n := range []int{0, 1, 255, 256, longest - 1, longest} {
		l = append(l, with(q, func(q *exec.Request) { q.Code = bytes.Repeat([]byte{200}, n) }))
	}
	for n := range api.MaxTypes + 1 {
		l = append(l, with(q, func(q *exec.Request) { q.Args = ints(n) }))
	}
	for _, args := range [][]api.Value{nil, {}, texts("", long), values("true false -9223372036854775808 9223372036854775807")} {
		l = append(l, with(q, func(q *exec.Request) { q.Args = args }))
	}
	return l
}

// wrongRequests may not be, each for one reason.
func wrongRequests() []exec.Request {
	q := someRequest()
	l := []exec.Request{{}}
	for _, n := range []int{0, 65, -1, 1 << 40, 1<<32 + 1, math.MinInt, math.MaxInt} {
		l = append(l, with(q, func(q *exec.Request) { q.Client = n }))
	}
	for _, n := range []int{0, -1, greatest + 1, greatest + 2, math.MinInt, math.MaxInt} {
		l = append(l, with(q, func(q *exec.Request) { q.Seq = n }))
	}
	for _, n := range []int{longest + 1, 65535, 65536, 1 << 21} {
		l = append(l, with(q, func(q *exec.Request) { q.Code = make([]byte, n) }))
	}
	for _, n := range []int{api.MaxTypes + 1, 255, 256, 300} {
		l = append(l, with(q, func(q *exec.Request) { q.Args = ints(n) }))
	}
	for _, v := range wrongValues {
		l = append(l,
			with(q, func(q *exec.Request) { q.Args = []api.Value{v} }),
			with(q, func(q *exec.Request) { q.Args = append(ints(api.MaxTypes-1), v) }),
			with(q, func(q *exec.Request) { q.Args = append([]api.Value{v}, ints(2)...) }))
	}
	return l
}

// rightReceipts may be.
func rightReceipts() []exec.Receipt {
	x := someReceipt()
	l := []exec.Receipt{x, {Client: 1, Seq: 1, Index: 1}, {
		Client: 64, Seq: greatest, Index: greatest, Gas: api.MaxGas, E: 255,
		Out: texts(slices.Repeat([]string{long}, api.MaxTypes)...), Emits: slices.Repeat([]string{long}, api.MaxEmits),
	}}
	for _, n := range []int{1, 64} {
		l = append(l, with(x, func(x *exec.Receipt) { x.Client = n }))
	}
	for _, n := range []int{1, 2, 256, greatest} {
		l = append(l, with(x, func(x *exec.Receipt) { x.Seq = n }), with(x, func(x *exec.Receipt) { x.Index = n }))
	}
	for _, n := range []int{0, 1, 300, api.MaxGas - 1, api.MaxGas} {
		l = append(l, with(x, func(x *exec.Receipt) { x.Gas = n }))
	}
	for n := range 256 {
		l = append(l, with(x, func(x *exec.Receipt) { x.E = api.Errno(n) }))
	}
	for n := range api.MaxTypes + 1 {
		l = append(l, with(x, func(x *exec.Receipt) { x.Out = ints(n) }))
	}
	for n := range api.MaxEmits + 1 {
		l = append(l, with(x, func(x *exec.Receipt) { x.Emits = slices.Repeat([]string{"e"}, n) }))
	}
	return append(l,
		with(x, func(x *exec.Receipt) { x.Emits = []string{long, "", long} }),
		with(x, func(x *exec.Receipt) { x.Emits = []string{} }),
		with(x, func(x *exec.Receipt) { x.Out = texts("", long) }))
}

// wrongReceipts may not be, each for one reason.
func wrongReceipts() []exec.Receipt {
	x := someReceipt()
	l := []exec.Receipt{{}}
	for _, n := range []int{0, 65, -1, math.MinInt, math.MaxInt} {
		l = append(l, with(x, func(x *exec.Receipt) { x.Client = n }))
	}
	for _, n := range []int{0, -1, greatest + 1, math.MinInt, math.MaxInt} {
		l = append(l, with(x, func(x *exec.Receipt) { x.Seq = n }), with(x, func(x *exec.Receipt) { x.Index = n }))
	}
	for _, n := range []int{-1, api.MaxGas + 1, math.MinInt, math.MaxInt} {
		l = append(l, with(x, func(x *exec.Receipt) { x.Gas = n }))
	}
	for _, n := range []int{-1, 256, 257, math.MinInt, math.MaxInt} {
		l = append(l, with(x, func(x *exec.Receipt) { x.E = api.Errno(n) }))
	}
	for _, n := range []int{api.MaxTypes + 1, 255, 256, 300} {
		l = append(l, with(x, func(x *exec.Receipt) { x.Out = ints(n) }))
	}
	for _, n := range []int{api.MaxEmits + 1, 255, 256, 256 + 3, 300} {
		l = append(l, with(x, func(x *exec.Receipt) { x.Emits = slices.Repeat([]string{"e"}, n) }))
	}
	for _, v := range wrongValues {
		l = append(l,
			with(x, func(x *exec.Receipt) { x.Out = []api.Value{v} }),
			with(x, func(x *exec.Receipt) { x.Out = append(ints(api.MaxTypes-1), v) }))
	}
	return append(l,
		with(x, func(x *exec.Receipt) { x.Emits = []string{"a", tooLong} }),
		with(x, func(x *exec.Receipt) { x.Emits = []string{strings.Repeat("e", 70000), "a"} }))
}

func TestP1402Right(t *testing.T) {
	for _, q := range rightRequests() {
		if !exec.Right(q) {
			t.Errorf("%d %d, %d bytes, %v: may be", q.Client, q.Seq, len(q.Code), q.Args)
		}
	}
	for _, q := range wrongRequests() {
		if exec.Right(q) {
			t.Errorf("%d %d, %d bytes, %v: may not be", q.Client, q.Seq, len(q.Code), q.Args)
		}
	}
}

// TestP1402ByHand: byte by byte.
func TestP1402ByHand(t *testing.T) {
	q, e := exec.PutRequest(exec.Request{Client: 2, Seq: 258, Code: []byte("xy"), Args: values("-2 x'61' true")})
	want := "\x00\x00\x00\x00\x00\x00\x00\x02" + "\x00\x00\x00\x00\x00\x00\x01\x02" + "\x00\x02xy" +
		"\x00\x10\x03" + "\x01\xff\xff\xff\xff\xff\xff\xff\xfe" + "\x02\x00\x01a" + "\x03\x01"
	if e != api.OK || string(q) != want {
		t.Errorf("a request: %q, error %d", q, e)
	}
	x, e := exec.PutReceipt(exec.Receipt{Client: 64, Seq: 1, Index: 3, Gas: 1 << 20, E: 200, Out: values("false"), Emits: []string{"e", ""}})
	want = "\x00\x00\x00\x00\x00\x00\x00\x40" + "\x00\x00\x00\x00\x00\x00\x00\x01" + "\x00\x00\x00\x00\x00\x00\x00\x03" + "\x00\x00\x00\x00\x00\x10\x00\x00" +
		"\xc8" + "\x00\x03\x01\x03\x00" + "\x02" + "\x00\x01e" + "\x00\x00"
	if e != api.OK || string(x) != want {
		t.Errorf("a receipt: %q, error %d", x, e)
	}
	q, e = exec.PutRequest(exec.Request{Client: 1, Seq: 1})
	if e != api.OK || string(q) != string(handInts(1, 1))+"\x00\x00\x00\x01\x00" {
		t.Errorf("a request without Code and Args: %q, error %d", q, e)
	}
}

func TestP1402ThereAndBack(t *testing.T) {
	for _, q := range rightRequests() {
		b, e := exec.PutRequest(q)
		if e != api.OK || !bytes.Equal(b, handRequest(q)) {
			t.Errorf("PutRequest of %+v: %v, error %d", q, b, e)
		}
		if r, e := exec.GetRequest(b); e != api.OK || !sameRequest(q, r) {
			t.Errorf("GetRequest: %+v, error %d, want %+v", r, e, q)
		}
	}
	for _, x := range rightReceipts() {
		b, e := exec.PutReceipt(x)
		if e != api.OK || !bytes.Equal(b, handReceipt(x)) {
			t.Errorf("PutReceipt of %+v: %v, error %d", x, b, e)
		}
		if r, e := exec.GetReceipt(b); e != api.OK || !sameReceipt(x, r) {
			t.Errorf("GetReceipt: %+v, error %d, want %+v", r, e, x)
		}
	}
}

func TestP1402MayNotBe(t *testing.T) {
	for _, q := range wrongRequests() {
		if b, e := exec.PutRequest(q); e != api.ErrArg || len(b) != 0 {
			t.Errorf("PutRequest of %d %d: %d bytes, error %d", q.Client, q.Seq, len(b), e)
		}
		wantNoRequest(t, handRequest(q), q)
	}
	for _, x := range wrongReceipts() {
		if b, e := exec.PutReceipt(x); e != api.ErrArg || len(b) != 0 {
			t.Errorf("PutReceipt of %+v: %d bytes, error %d", x, len(b), e)
		}
		wantNoReceipt(t, handReceipt(x), x)
	}
}

// wantNoRequest: b tells a request that may not be, unless what can't be written
// was left out when b was put together, so that it tells another one that may be.
func wantNoRequest(t *testing.T, b []byte, of exec.Request) {
	t.Helper()
	q, e := exec.GetRequest(b)
	if again, e2 := exec.PutRequest(q); e == api.OK && e2 == api.OK && !sameRequest(q, of) && bytes.Equal(again, b) {
		return
	}
	if e != api.ErrForm || !sameRequest(q, exec.Request{}) {
		t.Errorf("GetRequest of %d %d: %+v, error %d", of.Client, of.Seq, q, e)
	}
}

// wantNoReceipt is like wantNoRequest.
func wantNoReceipt(t *testing.T, b []byte, of exec.Receipt) {
	t.Helper()
	x, e := exec.GetReceipt(b)
	if again, e2 := exec.PutReceipt(x); e == api.OK && e2 == api.OK && !sameReceipt(x, of) && bytes.Equal(again, b) {
		return
	}
	if e != api.ErrForm || !sameReceipt(x, exec.Receipt{}) {
		t.Errorf("GetReceipt of %+v: %+v, error %d", of, x, e)
	}
}

// wantForm: none of these bytes are a request's or a receipt's.
func wantForm(t *testing.T, what string, b []byte) {
	t.Helper()
	if q, e := exec.GetRequest(b); e != api.ErrForm || !sameRequest(q, exec.Request{}) {
		t.Errorf("%s: GetRequest: %+v, error %d", what, q, e)
	}
	if x, e := exec.GetReceipt(b); e != api.ErrForm || !sameReceipt(x, exec.Receipt{}) {
		t.Errorf("%s: GetReceipt: %+v, error %d", what, x, e)
	}
}

func TestP1402CutOffOrMore(t *testing.T) {
	for _, b := range [][]byte{handRequest(someRequest()), handReceipt(someReceipt()), handRequest(exec.Request{Client: 1, Seq: 1}), handReceipt(exec.Receipt{Client: 1, Seq: 1, Index: 1})} {
		for n := range b {
			wantForm(t, "cut off", b[:n:n])
			wantForm(t, "cut off, with the rest behind it", b[:n])
		}
		for _, more := range []string{"\x00", "\x01", "\x00\x00", string(b)} {
			wantForm(t, "more", append(slices.Clone(b), more...))
		}
	}
	wantForm(t, "nil", nil)
	wantForm(t, "empty", []byte{})
	wantForm(t, "zeros", make([]byte, 100))
	wantForm(t, "very many", make([]byte, 2*api.MaxBytes))
}

// TestP1402Values: the texts of Args and Out must be values' bytes, no less and
// no more.
func TestP1402Values(t *testing.T) {
	good := string(handValues(values("-5 true"))[2:])
	for _, s := range []string{"", good[:len(good)-1], good + "\x00", "\x03" + good[1:], "\x01" + good[1:], "\x01\x00", "\x01\x04", "\x01\x03\x02", "\x01\x02\x01\x01" + tooLong} {
		q := slices.Concat(handInts(1, 1), handText("code"), handText(s))
		x := slices.Concat(handInts(1, 1, 1, 1), []byte{0}, handText(s), []byte{0})
		wantForm(t, "no values in a request", q)
		wantForm(t, "no values in a receipt", x)
	}
	q := slices.Concat(handInts(1, 1), handText("code"), handText(good))
	if r, e := exec.GetRequest(q); e != api.OK || !slices.Equal(r.Args, values("-5 true")) {
		t.Errorf("%+v, error %d", r, e)
	}
}

// TestP1402OtherBytes: of bytes that differ from good ones at one place, each is
// an error, or what is written as the same bytes.
func TestP1402OtherBytes(t *testing.T) {
	errors := 0
	for _, b := range [][]byte{handRequest(someRequest()), handReceipt(someReceipt())} {
		for i := range b {
			for d := 1; d < 256; d++ {
				b[i] ^= byte(d)
				errors += wantSame(t, b)
				b[i] ^= byte(d)
			}
		}
	}
	if errors < 1000 {
		t.Error("only", errors, "errors")
	}
}

// wantSame answers how many of both readers tell an error.
func wantSame(t *testing.T, b []byte) (errors int) {
	t.Helper()
	if q, e := exec.GetRequest(b); e == api.OK {
		if again, e := exec.PutRequest(q); e != api.OK || !bytes.Equal(again, b) || !exec.Right(q) {
			t.Errorf("%v is read as %+v", b, q)
		}
	} else if errors++; e != api.ErrForm || !sameRequest(q, exec.Request{}) {
		t.Errorf("%v: %+v, error %d", b, q, e)
	}
	if x, e := exec.GetReceipt(b); e == api.OK {
		if again, e := exec.PutReceipt(x); e != api.OK || !bytes.Equal(again, b) {
			t.Errorf("%v is read as %+v", b, x)
		}
	} else if errors++; e != api.ErrForm || !sameReceipt(x, exec.Receipt{}) {
		t.Errorf("%v: %+v, error %d", b, x, e)
	}
	return errors
}

// FuzzP1402Get: of any bytes.
func FuzzP1402Get(f *testing.F) {
	for _, q := range rightRequests() {
		f.Add(handRequest(q))
	}
	for _, x := range rightReceipts()[:20] {
		f.Add(handReceipt(x))
	}
	f.Fuzz(func(t *testing.T, b []byte) { wantSame(t, b) })
}
