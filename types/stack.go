package types

import (
	"slices"

	"weighhouse/api"
)

// anyType stands for a type that an operation does not say.
const anyType = 0

// put answers a new stack: types upon what stands below.
func put(below []int, types ...int) []int {
	return append(slices.Clone(below), types...)
}

// take answers what is left of the stack if these types are taken off it, the
// last one first: where the top is of another type, it does not matter that
// there are too few below it.
func take(stack []int, types ...int) ([]int, api.Errno) {
	for _, want := range slices.Backward(types) {
		if len(stack) == 0 {
			return nil, api.ErrStack
		}
		top := len(stack) - 1
		if want != anyType && want != stack[top] {
			return nil, api.ErrType
		}
		stack = stack[:top]
	}
	return stack, api.OK
}
