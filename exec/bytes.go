package exec

import (
	"weighhouse/api"
	"weighhouse/value"
	"weighhouse/wire"
)

// PutRequest answers the bytes of q.
func PutRequest(q Request) ([]byte, api.Errno) {
	if !Right(q) {
		return nil, api.ErrArg
	}
	// No write can fail from here on, nor below in receiptBytes: the limits of
	// what may be are far below those of a Writer and its texts.
	w := wire.NewWriter()
	w.Int(q.Client, q.Seq)
	w.Text(string(q.Code), valuesText(q.Args...))
	return w.Bytes(), api.OK
}

// GetRequest answers the request whose bytes b are.
func GetRequest(b []byte) (Request, api.Errno) {
	var q Request
	r := newReader(b)
	r.ints(&q.Client, &q.Seq)
	q.Code = []byte(r.Text())
	q.Args = r.values()
	if !r.done() || !Right(q) {
		return Request{}, api.ErrForm
	}
	return q, api.OK
}

// PutReceipt answers the bytes of x.
func PutReceipt(x Receipt) ([]byte, api.Errno) {
	if !rightReceipt(x) {
		return nil, api.ErrArg
	}
	return receiptBytes(x), api.OK
}

// GetReceipt answers the receipt whose bytes b are.
func GetReceipt(b []byte) (Receipt, api.Errno) {
	var x Receipt
	r := newReader(b)
	r.ints(&x.Client, &x.Seq, &x.Index, &x.Gas)
	x.E = api.Errno(r.Byte())
	x.Out = r.values()
	x.Emits = r.texts(r.Byte())
	if !r.done() || !rightReceipt(x) {
		return Receipt{}, api.ErrForm
	}
	return x, api.OK
}

// receiptBytes answers the bytes of a receipt that may be.
func receiptBytes(x Receipt) []byte {
	w := wire.NewWriter()
	w.Int(x.Client, x.Seq, x.Index, x.Gas)
	w.Byte(int(x.E))
	w.Text(valuesText(x.Out...))
	w.Byte(len(x.Emits))
	w.Text(x.Emits...)
	return w.Bytes()
}

// valuesText answers the bytes of values that may be.
func valuesText(l ...api.Value) string {
	b, _ := value.Put(l...)
	return string(b)
}

// reader reads with the Reader that it embeds, and keeps in mind whether values
// were none. It takes numbers and lists past the limits: whether the whole may be
// is asked at last.
type reader struct {
	*wire.Reader
	wrong bool
}

func newReader(b []byte) *reader {
	return &reader{Reader: wire.NewReader(b)}
}

// ints reads a number to each of these places.
func (r *reader) ints(places ...*int) {
	for _, p := range places {
		*p = r.Int()
	}
}

func (r *reader) texts(count int) []string {
	l := make([]string, count)
	for i := range l {
		l[i] = r.Text()
	}
	return l
}

// values reads a text that is the bytes of values.
func (r *reader) values() []api.Value {
	l, e := value.Get([]byte(r.Text()))
	r.wrong = r.wrong || e != api.OK
	return l
}

// done answers whether all was read, and nothing of it wrong.
func (r *reader) done() bool {
	return r.Done() == api.OK && !r.wrong
}
