package asm

import (
	"strings"

	"weighhouse/api"
	"weighhouse/code"
	"weighhouse/value"
)

// What Parse tells of a text as a whole, in the stead of a line's number.
const (
	tooLong  = -1
	mayNotBe = -2
)

const (
	lineEnd   = "\n"
	wordConst = "const"
)

// Print answers the lines of s; "", if it may not be.
func Print(s api.Script) string {
	if !code.Right(s) {
		return ""
	}
	var out strings.Builder
	for _, c := range s.Consts {
		putLine(&out, wordConst, value.Print(value.Text(c)))
	}
	for _, f := range s.Funcs {
		putLine(&out, Head(f))
		for _, x := range f.Code {
			putLine(&out, Line(x))
		}
	}
	return out.String()
}

func putLine(out *strings.Builder, words ...string) {
	out.WriteString(joined(words...))
	out.WriteString(lineEnd)
}

// Parse answers the script whose lines text is, and 0; else bad is a line's
// number, or tells of the whole.
func Parse(text string) (s api.Script, bad int) {
	if len(text) > api.MaxText {
		return api.Script{}, tooLong
	}
	s, bad = readLines(text)
	if bad == 0 && !code.Right(s) {
		return api.Script{}, mayNotBe
	}
	return s, bad
}

// readLines answers the script of text's lines, whether it may be or not; else
// bad is the number of the first line that is none, or may not stand there.
// The word const begins a constant ahead of the first function, and an
// instruction behind it.
func readLines(text string) (s api.Script, bad int) {
lines:
	for number := 1; text != ""; number++ {
		line, behind, ended := strings.Cut(text, lineEnd)
		text = behind
		word, rest, _ := strings.Cut(line, blank)
		switch {
		case !ended:
		case word == wordFunc:
			if f, ok := ReadHead(line); ok {
				s.Funcs = append(s.Funcs, f)
				continue lines
			}
		case len(s.Funcs) > 0:
			if x, ok := Read(line); ok {
				last := &s.Funcs[len(s.Funcs)-1]
				last.Code = append(last.Code, x)
				continue lines
			}
		case word == wordConst:
			if v, ok := single(rest, api.Bytes); ok {
				s.Consts = append(s.Consts, v.B)
				continue lines
			}
		}
		return api.Script{}, number
	}
	return s, 0
}
