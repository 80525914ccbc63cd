package message

import (
	"weighhouse/api"
	"weighhouse/wire"
)

// Put answers the bytes of m.
func Put(m Message) ([]byte, api.Errno) {
	x := letterOf(m)
	if !x.right() {
		return nil, api.ErrArg
	}
	w := writer{wire.NewWriter()}
	w.Byte(x.kind, x.from, x.to)
	w.Int(x.view, x.op, x.commit, x.normal)
	return w.end(x.log...)
}

// Get answers the message whose bytes b are.
func Get(b []byte) (Message, api.Errno) {
	var x letter
	r := newReader(b)
	r.bytes(&x.kind, &x.from, &x.to)
	r.ints(&x.view, &x.op, &x.commit, &x.normal)
	x.log = r.entries()
	if r.Done() != api.OK || !x.right() {
		return Message{}, api.ErrForm
	}
	return x.message(), api.OK
}

// PutRecord answers the bytes of r.
func PutRecord(r Record) ([]byte, api.Errno) {
	x := noteOf(r)
	if !x.right() {
		return nil, api.ErrArg
	}
	w := writer{wire.NewWriter()}
	w.Byte(x.kind)
	w.Int(x.view, x.normal, x.op)
	return w.end(x.log...)
}

// GetRecord answers the record whose bytes b are.
func GetRecord(b []byte) (Record, api.Errno) {
	var x note
	r := newReader(b)
	r.bytes(&x.kind)
	r.ints(&x.view, &x.normal, &x.op)
	x.log = r.entries()
	if r.Done() != api.OK || !x.right() {
		return Record{}, api.ErrForm
	}
	return x.record(), api.OK
}

// writer writes logs with the Writer that it embeds.
type writer struct {
	*wire.Writer
}

// end writes a log behind its count, and answers all that was written. Only a log
// may be too much: what stands ahead of it is short, and within its limits.
func (w writer) end(l ...Entry) ([]byte, api.Errno) {
	w.Byte(len(l)>>8, len(l)&255)
	for _, x := range l {
		if e := w.entry(x); e != api.OK {
			return nil, e
		}
	}
	return w.Bytes(), api.OK
}

func (w writer) entry(x Entry) api.Errno {
	if e := w.Int(x.View); e != api.OK {
		return e
	}
	return w.Text(x.Data)
}

// reader reads with the Reader that it embeds. It takes kinds, numbers and logs past
// their limits: whether the whole may be is asked at last.
type reader struct {
	*wire.Reader
}

// newReader answers one that finds nothing where there are more bytes than Put makes:
// these are no message's and no record's, though each part of them may be right.
func newReader(b []byte) reader {
	if len(b) > api.MaxBytes {
		b = nil
	}
	return reader{wire.NewReader(b)}
}

// bytes reads a byte to each of these places.
func (r reader) bytes(places ...*int) {
	for _, p := range places {
		*p = r.Byte()
	}
}

// ints reads a number to each of these places.
func (r reader) ints(places ...*int) {
	for _, p := range places {
		*p = r.Int()
	}
}

// entries reads a log, and stops at an error: a count alone must not make a list that
// is longer than its bytes.
func (r reader) entries() []Entry {
	var l []Entry
	for range r.Byte()<<8 | r.Byte() {
		if r.Err() != api.OK {
			break
		}
		l = append(l, Entry{View: r.Int(), Data: r.Text()})
	}
	return l
}
