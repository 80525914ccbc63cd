package asm

import (
	"strings"

	"weighhouse/api"
)

// maxHead is how many types a head has at most that is read.
const maxHead = 64

// parts are a function's Params, Results and Locals.
const parts = 3

const wordFunc = "func"

// marks stand ahead of the parts.
var marks = [parts]string{wordFunc, "->", ";"}

// Head answers the head of f; "", if one of its types is none.
func Head(f api.Func) string {
	var words []string
	for i, l := range [parts][]int{f.Params, f.Results, f.Locals} {
		words = append(words, marks[i])
		for _, kind := range l {
			word := typeWord(kind)
			if word == "" {
				return ""
			}
			words = append(words, word)
		}
	}
	return joined(words...)
}

// ReadHead answers the function without Code whose head s is.
func ReadHead(s string) (api.Func, bool) {
	var lists [parts][]int
	passed, count := 0, 0
	for word := range strings.SplitSeq(s, blank) {
		if passed < parts && word == marks[passed] {
			passed++
			continue
		}
		kind, ok := typeOf(word)
		if !ok || passed == 0 || count == maxHead {
			return api.Func{}, false
		}
		lists[passed-1] = append(lists[passed-1], kind)
		count++
	}
	if passed < parts {
		return api.Func{}, false
	}
	return api.Func{Params: lists[0], Results: lists[1], Locals: lists[2]}, true
}

func typeWord(kind int) string {
	switch kind {
	case api.Int:
		return "int"
	case api.Bytes:
		return "bytes"
	case api.Bool:
		return "bool"
	}
	return ""
}

func typeOf(word string) (int, bool) {
	for kind := api.Int; kind <= api.Bool; kind++ {
		if typeWord(kind) == word {
			return kind, true
		}
	}
	return 0, false
}
