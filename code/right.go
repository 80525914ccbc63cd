package code

import (
	"math"

	"weighhouse/api"
	"weighhouse/op"
)

// Right answers whether s may be.
func Right(s api.Script) bool {
	if len(s.Consts) > api.MaxConsts || len(s.Funcs) < 1 || len(s.Funcs) > api.MaxFuncs {
		return false
	}
	for _, c := range s.Consts {
		if len(c) > api.MaxValue {
			return false
		}
	}
	for _, f := range s.Funcs {
		if !rightLists(f) || !rightCode(s, f) {
			return false
		}
	}
	return true
}

// rightLists looks at the lists' lengths ahead of what is in them, so that
// long lists are not gone through.
func rightLists(f api.Func) bool {
	return len(f.Params) <= api.MaxTypes && len(f.Results) <= api.MaxTypes &&
		slotCount(f) <= api.MaxLocals && len(f.Code) <= api.MaxCode &&
		allTypes(f.Params, f.Results, f.Locals)
}

func slotCount(f api.Func) int {
	return len(f.Params) + len(f.Locals)
}

func allTypes(lists ...[]int) bool {
	for _, l := range lists {
		for _, kind := range l {
			if kind < api.Int || kind > api.Bool {
				return false
			}
		}
	}
	return true
}

// rightCode answers whether f's instructions may be, as those of one of s's
// functions.
func rightCode(s api.Script, f api.Func) bool {
	for _, in := range f.Code {
		least, most := bounds(op.Takes(in.Op), s, f)
		if op.Name(in.Op) == "" || in.A < least || in.A > most {
			return false
		}
	}
	return true
}

// bounds answers the least and the greatest A that may be; the greatest is the
// lesser one where none may be.
func bounds(takes int, s api.Script, f api.Func) (least, most int) {
	switch takes {
	case op.Number:
		return math.MinInt, math.MaxInt
	case op.Const:
		return 0, len(s.Consts) - 1
	case op.Local:
		return 0, slotCount(f) - 1
	case op.Loop:
		return 1, api.MaxLoop
	case op.Func:
		return 0, len(s.Funcs) - 1
	}
	return 0, 0
}
