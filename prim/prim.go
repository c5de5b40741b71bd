// Package prim: numbers, and what comes of two of them. See DOC.md, chapter 1.
package prim

import (
	"sleuth/api"
)

// May: is x from -MaxNum - 1 to MaxNum?
func May(x int) bool {
	return -api.MaxNum-1 <= x && x <= api.MaxNum
}

// Do: what comes of a and b by op.
func Do(op int, a int, b int) (int, api.Errno) {
	if !May(a) || !May(b) {
		return 0, api.ErrPrimForm
	}
	switch op {
	case api.OpAdd:
		return intoRange(a + b), api.OK
	case api.OpSub:
		return intoRange(a - b), api.OK
	case api.OpMul:
		return intoRange(a * b), api.OK
	case api.OpEq:
		return oneIf(a == b), api.OK
	case api.OpLess:
		return oneIf(a < b), api.OK
	}
	return 0, api.ErrPrimForm
}

// intoRange leans on int16: its numbers are just those that may be, and its wrap-round adds or takes 65536.
// Two numbers that may be give no more than 2^30, so that x is exact in any int.
func intoRange(x int) int {
	return int(int16(x))
}

// oneIf: a yes as a number.
func oneIf(yes bool) int {
	if yes {
		return 1
	}
	return 0
}
