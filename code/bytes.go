package code

import (
	"weighhouse/api"
	"weighhouse/op"
	"weighhouse/wire"
)

// Put answers the bytes of s.
func Put(s api.Script) ([]byte, api.Errno) {
	if !Right(s) {
		return nil, api.ErrScript
	}
	// No write can fail from here on: the limits of a script that may be keep
	// its bytes far fewer than a Writer takes, and its counts within theirs.
	w := writer{wire.NewWriter()}
	w.Byte(len(s.Consts))
	w.Text(s.Consts...)
	w.Byte(len(s.Funcs))
	for _, f := range s.Funcs {
		w.lists(f.Params, f.Results, f.Locals)
		w.code(f.Code...)
	}
	return w.Bytes(), api.OK
}

// Get answers the script whose bytes b is.
func Get(b []byte) (api.Script, api.Errno) {
	r := reader{wire.NewReader(b)}
	s := r.script()
	if r.Done() != api.OK || !Right(s) {
		return api.Script{}, api.ErrScript
	}
	return s, api.OK
}

// writer writes what a script is made of with the Writer that it embeds.
type writer struct {
	*wire.Writer
}

// lists writes lists of types, each behind its length.
func (w writer) lists(all ...[]int) {
	for _, l := range all {
		w.Byte(len(l))
		w.Byte(l...)
	}
}

// code writes instructions behind their count, which may be too great for one
// byte.
func (w writer) code(l ...api.Instr) {
	w.Byte(len(l)>>8, len(l)&255)
	for _, in := range l {
		w.Byte(in.Op)
		switch op.Takes(in.Op) {
		case op.None:
		case op.Number:
			w.Int(in.A)
		default:
			w.Byte(in.A)
		}
	}
}

// reader reads what a script is made of with the Reader that it embeds. It
// takes what it finds, even past the limits: whether the whole may be is asked
// at last.
type reader struct {
	*wire.Reader
}

func (r reader) script() api.Script {
	return api.Script{
		Consts: many(r, r.Byte(), r.Text),
		Funcs:  many(r, r.Byte(), r.function),
	}
}

func (r reader) function() api.Func {
	return api.Func{
		Params:  r.types(),
		Results: r.types(),
		Locals:  r.types(),
		Code:    many(r, r.Byte()<<8|r.Byte(), r.instr),
	}
}

func (r reader) types() []int {
	return many(r, r.Byte(), r.Byte)
}

func (r reader) instr() api.Instr {
	in := api.Instr{Op: r.Byte()}
	switch op.Takes(in.Op) {
	case op.None:
	case op.Number:
		in.A = r.Int()
	default:
		in.A = r.Byte()
	}
	return in
}

// many reads count things, and stops at an error: a count alone must not make
// a list that is longer than its bytes.
func many[T any](r reader, count int, one func() T) []T {
	var l []T
	for range count {
		if r.Err() != api.OK {
			break
		}
		l = append(l, one())
	}
	return l
}
