package bound

import (
	"slices"

	"weighhouse/api"
	"weighhouse/op"
)

// tooMuch is where gas is cut: it stands for all that is above MaxGas.
const tooMuch = api.MaxGas + 1

// rightNumbers answers whether each call of c has a bound in callees, and no
// bound and no count of rounds is below 0. All are looked at, also those that
// no gas would hang on.
func rightNumbers(c []api.Instr, callees []int) bool {
	wrong := func(x api.Instr) bool {
		switch x.Op {
		case op.Call:
			return x.A < 0 || x.A >= len(callees)
		case op.Loops:
			return x.A < 0
		}
		return false
	}
	below := func(n int) bool { return n < 0 }
	return !slices.ContainsFunc(c, wrong) && !slices.ContainsFunc(callees, below)
}

// gasOf answers the bound of c, which is of good shape and has right numbers.
func gasOf(c []api.Instr, callees []int) int {
	// parts answers the bound of the parts from a place on, with the else or end
	// that closes their block, and where that stands; outside of blocks nothing
	// closes them, and they go on to the last
	var parts func(at int) (gas, closer int)
	parts = func(at int) (gas, closer int) {
		for ; at < len(c); at++ {
			x := c[at]
			gas = sum(gas, op.Cost(x.Op))
			switch x.Op {
			case op.Else, op.End:
				return gas, at
			case op.Call:
				gas = sum(gas, callees[x.A])
			case op.If:
				yes, no := 0, 0
				if yes, at = parts(at + 1); c[at].Op == op.Else {
					no, at = parts(at + 1)
				}
				gas = sum(gas, max(yes, no))
			case op.Loops:
				round := 0
				round, at = parts(at + 1)
				gas = sum(gas, times(x.A, round))
			}
		}
		return gas, at
	}
	gas, _ := parts(0)
	return gas
}

// sum answers the sum of amounts that are not below 0, cut. It holds each one
// against the room that is left, as an amount may be too great to be added.
func sum(amounts ...int) int {
	gas := 0
	for _, n := range amounts {
		gas += min(n, tooMuch-gas)
	}
	return gas
}

// times answers the gas of so many rounds, cut. Each round was cut itself and
// takes some: more than tooMuch rounds need not be told, and the product fits
// in an int.
func times(rounds, gas int) int {
	return sum(min(rounds, tooMuch) * gas)
}
