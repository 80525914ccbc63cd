package value

import (
	"weighhouse/api"
	"weighhouse/wire"
)

const maxCount = 255

// Put answers the bytes of l.
func Put(l ...api.Value) ([]byte, api.Errno) {
	if len(l) > maxCount {
		return nil, api.ErrSize
	}
	if !allRight(l...) {
		return nil, api.ErrArg
	}
	// No write can fail from here on: so many values, all right, have fewer
	// bytes than a Writer takes.
	w := wire.NewWriter()
	w.Byte(len(l))
	for _, v := range l {
		putOne(w, v)
	}
	return w.Bytes(), api.OK
}

// Get answers the values whose bytes b is.
func Get(b []byte) ([]api.Value, api.Errno) {
	r := wire.NewReader(b)
	l := make([]api.Value, r.Byte())
	for i := range l {
		l[i] = getOne(r)
	}
	if r.Done() != api.OK || !allRight(l...) {
		return nil, api.ErrForm
	}
	return l, api.OK
}

func putOne(w *wire.Writer, v api.Value) {
	w.Byte(v.Type)
	switch v.Type {
	case api.Int:
		w.Int(v.N)
	case api.Bytes:
		w.Text(v.B)
	case api.Bool:
		w.Byte(v.N)
	}
}

func getOne(r *wire.Reader) api.Value {
	v := api.Value{Type: r.Byte()}
	switch v.Type {
	case api.Int:
		v.N = r.Int()
	case api.Bytes:
		v.B = r.Text()
	case api.Bool:
		v.N = r.Byte()
	}
	return v
}
