package wire

import "weighhouse/api"

// Writer holds what was written, at most MaxBytes bytes.
type Writer struct {
	*held
}

// NewWriter answers an empty Writer.
func NewWriter() *Writer {
	return &Writer{&held{}}
}

// Byte writes numbers from 0 to 255, a byte each: all of them or none.
func (w *Writer) Byte(l ...int) api.Errno {
	if !w.made() {
		return api.ErrArg
	}
	for _, n := range l {
		if n < 0 || n > maxByte {
			w.fail(api.ErrRange)
		}
	}
	w.needRoom(len(l), 1)
	if w.err == api.OK {
		for _, n := range l {
			w.bytes = append(w.bytes, byte(n))
		}
	}
	return w.endCall()
}

// Int writes numbers, eight bytes each: all of them or none.
func (w *Writer) Int(l ...int) api.Errno {
	if !w.made() {
		return api.ErrArg
	}
	w.needRoom(len(l), intSize)
	if w.err == api.OK {
		for _, n := range l {
			w.bytes = appendNumber(w.bytes, uint64(n), intSize)
		}
	}
	return w.endCall()
}

// Text writes texts behind their lengths: all of them or none.
func (w *Writer) Text(l ...string) api.Errno {
	if !w.made() {
		return api.ErrArg
	}
	size := 0
	for _, s := range l {
		if len(s) > maxText {
			w.fail(api.ErrSize)
			break // a sum of greater lengths might wrap round
		}
		size += textHead + len(s)
	}
	w.needRoom(size, 1)
	if w.err == api.OK {
		for _, s := range l {
			w.bytes = appendNumber(w.bytes, uint64(len(s)), textHead)
			w.bytes = append(w.bytes, s...)
		}
	}
	return w.endCall()
}

// Bytes answers a copy of what was written.
func (w *Writer) Bytes() []byte {
	if !w.made() {
		return nil
	}
	return fresh(w.bytes)
}

func (w *Writer) made() bool {
	return w != nil && w.held != nil
}

// needRoom fails if count things of size bytes don't fit; it divides where a
// product might wrap round.
func (w *Writer) needRoom(count, size int) {
	if count > (api.MaxBytes-len(w.bytes))/size {
		w.fail(api.ErrSize)
	}
}

// endCall lets go of the error: a Writer's error is of one call alone.
func (w *Writer) endCall() api.Errno {
	err := w.err
	w.err = api.OK
	return err
}
