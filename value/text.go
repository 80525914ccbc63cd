package value

import (
	"strconv"
	"strings"

	"weighhouse/api"
)

const (
	digits     = "0123456789abcdef"
	bytesBegin = "x'"
	bytesEnd   = "'"
	blank      = " "
	wordTrue   = "true"
	wordFalse  = "false"
)

// Print answers the text of l; "", if one of them may not be.
func Print(l ...api.Value) string {
	if !allRight(l...) {
		return ""
	}
	words := make([]string, len(l))
	for i, v := range l {
		words[i] = word(v)
	}
	return strings.Join(words, blank)
}

// Parse answers the values whose text s is.
func Parse(s string) ([]api.Value, api.Errno) {
	if s == "" {
		return nil, api.OK
	}
	var l []api.Value
	for w := range strings.SplitSeq(s, blank) {
		v, ok := readWord(w)
		if !ok {
			return nil, api.ErrForm
		}
		l = append(l, v)
	}
	return l, api.OK
}

// word answers the text of one value that may be.
func word(v api.Value) string {
	switch {
	case v.Type == api.Int:
		return strconv.Itoa(v.N)
	case v.Type == api.Bytes:
		return bytesWord(v.B)
	case v == Truth(true):
		return wordTrue
	}
	return wordFalse
}

func bytesWord(s string) string {
	var out strings.Builder
	out.Grow(len(bytesBegin) + 2*len(s) + len(bytesEnd))
	out.WriteString(bytesBegin)
	for _, c := range []byte(s) {
		out.WriteByte(digits[c>>4])
		out.WriteByte(digits[c&15])
	}
	out.WriteString(bytesEnd)
	return out.String()
}

// readWord answers the value that may be whose text w is, just so. What is
// read is written again: strconv takes more than one text of a number, and
// only values that may be are written.
func readWord(w string) (api.Value, bool) {
	v, ok := guess(w)
	if !ok || Print(v) != w {
		return api.Value{}, false
	}
	return v, true
}

// guess reads w, and texts that Print would not write.
func guess(w string) (api.Value, bool) {
	switch {
	case w == wordTrue, w == wordFalse:
		return Truth(w == wordTrue), true
	case strings.HasPrefix(w, bytesBegin):
		return readBytes(w[len(bytesBegin):])
	}
	n, err := strconv.Atoi(w)
	return Number(n), err == nil
}

// readBytes reads what stands behind the first ' of a word of Bytes.
func readBytes(w string) (api.Value, bool) {
	in, ok := strings.CutSuffix(w, bytesEnd)
	if !ok || len(in)%2 != 0 {
		return api.Value{}, false
	}
	b := make([]byte, 0, len(in)/2)
	for i := 0; i < len(in); i += 2 {
		high, low := strings.IndexByte(digits, in[i]), strings.IndexByte(digits, in[i+1])
		if high < 0 || low < 0 {
			return api.Value{}, false
		}
		b = append(b, byte(high<<4|low))
	}
	return Text(string(b)), true
}
