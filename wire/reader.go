package wire

import "weighhouse/api"

// Reader holds the bytes that were not passed, and the first error.
type Reader struct {
	*held
}

// NewReader answers a Reader at the beginning of a copy of b.
func NewReader(b []byte) *Reader {
	return &Reader{&held{bytes: fresh(b)}}
}

// Byte reads a byte; 0 at and behind an error.
func (r *Reader) Byte() int {
	return int(number(r.take(1)))
}

// Int reads a number of eight bytes; 0 at and behind an error.
func (r *Reader) Int() int {
	return int(number(r.take(intSize)))
}

// Text reads a text behind its length; "" at and behind an error.
func (r *Reader) Text() string {
	b := r.take(textHead + r.textLength())
	if len(b) < textHead {
		return ""
	}
	return string(b[textHead:])
}

// Left answers how many bytes were not passed.
func (r *Reader) Left() int {
	if !r.made() {
		return 0
	}
	return len(r.bytes)
}

// Err answers the first error.
func (r *Reader) Err() api.Errno {
	if !r.made() {
		return api.ErrArg
	}
	return r.err
}

// Done answers the first error, or ErrForm if bytes are left. That is no
// error of reading: the Reader may be read on behind it.
func (r *Reader) Done() api.Errno {
	if err := r.Err(); err != api.OK {
		return err
	}
	if r.Left() > 0 {
		return api.ErrForm
	}
	return api.OK
}

func (r *Reader) made() bool {
	return r != nil && r.held != nil
}

// textLength looks ahead at a text's length without passing it: a text that
// ends too early must leave its length unpassed too.
func (r *Reader) textLength() int {
	if r.Left() < textHead {
		return 0
	}
	return int(number(r.bytes[:textHead]))
}

// take passes n bytes and answers them, or passes none and answers none.
func (r *Reader) take(n int) []byte {
	if !r.made() || r.err != api.OK {
		return nil
	}
	if n > len(r.bytes) {
		r.fail(api.ErrEnd)
		return nil
	}
	b := r.bytes[:n]
	r.bytes = r.bytes[n:]
	return b
}
