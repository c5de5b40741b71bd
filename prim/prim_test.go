package prim

import (
	"math"
	"testing"

	"sleuth/api"
)

const (
	least    = -32768
	greatest = 32767
)

// wrongNumbers may not be: the nearest ones, the farthest ones, and those that a narrower int would take for small.
var wrongNumbers = []int{least - 1, greatest + 1, 65535, 65536, -65536, 65537, math.MaxInt32, math.MinInt32, math.MaxInt - 1, math.MaxInt, math.MinInt, math.MinInt + 1}

// rightNumbers may be.
var rightNumbers = []int{least, least + 1, -256, -182, -181, -1, 0, 1, 2, 181, 182, 255, 256, greatest - 1, greatest}

var ops = []int{api.OpAdd, api.OpSub, api.OpMul, api.OpEq, api.OpLess}

func TestP1_1MayTellsTheRange(t *testing.T) {
	for x := least - 70000; x <= greatest+70000; x++ {
		if want := x >= least && x <= greatest; May(x) != want {
			t.Fatalf("May(%d) = %v, want %v", x, May(x), want)
		}
	}
	for _, x := range wrongNumbers {
		if May(x) {
			t.Errorf("May(%d) = true", x)
		}
	}
	for _, x := range rightNumbers {
		if !May(x) {
			t.Errorf("May(%d) = false", x)
		}
	}
}

// cases are worked out by hand from the chapter.
var cases = []struct{ op, a, b, want int }{
	{api.OpAdd, 2, 3, 5},
	{api.OpAdd, -7, 3, -4},
	{api.OpAdd, 0, 0, 0},
	{api.OpAdd, greatest, 0, greatest},
	{api.OpAdd, least, 0, least},
	{api.OpAdd, greatest - 1, 1, greatest},
	{api.OpAdd, least + 1, -1, least},
	{api.OpAdd, greatest, least, -1},
	{api.OpAdd, greatest, 1, least},
	{api.OpAdd, 1, greatest, least},
	{api.OpAdd, least, -1, greatest},
	{api.OpAdd, -1, least, greatest},
	{api.OpAdd, greatest, greatest, -2},
	{api.OpAdd, least, least, 0},
	{api.OpSub, 2, 3, -1},
	{api.OpSub, 3, 2, 1},
	{api.OpSub, -7, -3, -4},
	{api.OpSub, 0, greatest, least + 1},
	{api.OpSub, greatest, greatest, 0},
	{api.OpSub, least, least, 0},
	{api.OpSub, -1, greatest, least},
	{api.OpSub, -1, least, greatest},
	{api.OpSub, 0, least, least},
	{api.OpSub, -2, greatest, greatest},
	{api.OpSub, greatest, -1, least},
	{api.OpSub, least, 1, greatest},
	{api.OpSub, greatest, least, -1},
	{api.OpSub, least, greatest, 1},
	{api.OpMul, 6, 7, 42},
	{api.OpMul, -6, 7, -42},
	{api.OpMul, -6, -7, 42},
	{api.OpMul, 0, least, 0},
	{api.OpMul, greatest, 1, greatest},
	{api.OpMul, least, 1, least},
	{api.OpMul, greatest, -1, least + 1},
	{api.OpMul, 181, 181, 32761},
	{api.OpMul, 182, 182, -32412},
	{api.OpMul, -182, 182, 32412},
	{api.OpMul, 256, 128, least},
	{api.OpMul, -256, 128, least},
	{api.OpMul, 256, 256, 0},
	{api.OpMul, greatest, 2, -2},
	{api.OpMul, least, 2, 0},
	{api.OpMul, least, -1, least},
	{api.OpMul, -1, least, least},
	{api.OpMul, greatest, greatest, 1},
	{api.OpMul, least, least, 0},
	{api.OpMul, least, greatest, least},
	{api.OpMul, greatest, least, least},
	{api.OpMul, 12345, 6789, -10339},
	{api.OpEq, 5, 5, 1},
	{api.OpEq, 5, 6, 0},
	{api.OpEq, 6, 5, 0},
	{api.OpEq, 5, -5, 0},
	{api.OpEq, 0, 0, 1},
	{api.OpEq, least, least, 1},
	{api.OpEq, greatest, greatest, 1},
	{api.OpEq, least, greatest, 0},
	{api.OpEq, greatest, least, 0},
	{api.OpEq, least, least + 1, 0},
	{api.OpEq, greatest, greatest - 1, 0},
	{api.OpLess, 5, 6, 1},
	{api.OpLess, 6, 5, 0},
	{api.OpLess, 5, 5, 0},
	{api.OpLess, -1, 0, 1},
	{api.OpLess, 0, -1, 0},
	{api.OpLess, 0, 0, 0},
	{api.OpLess, least, greatest, 1},
	{api.OpLess, greatest, least, 0},
	{api.OpLess, least, least + 1, 1},
	{api.OpLess, least + 1, least, 0},
	{api.OpLess, greatest - 1, greatest, 1},
	{api.OpLess, greatest, greatest - 1, 0},
	{api.OpLess, least, least, 0},
	{api.OpLess, greatest, greatest, 0},
}

func TestP1_1DoByHand(t *testing.T) {
	for _, c := range cases {
		if got, e := Do(c.op, c.a, c.b); got != c.want || e != api.OK {
			t.Errorf("Do(%d, %d, %d) = %d, %d, want %d, OK", c.op, c.a, c.b, got, e, c.want)
		}
	}
}

// brought does what the chapter says, a step of 65536 at a time.
func brought(x int) int {
	for x > greatest {
		x -= 65536
	}
	for x < least {
		x += 65536
	}
	return x
}

// slow: what is asked of Do, in the chapter's own words.
func slow(op, a, b int) int {
	switch {
	case op == api.OpAdd:
		return brought(a + b)
	case op == api.OpSub:
		return brought(a - b)
	case op == api.OpMul:
		return brought(a * b)
	case op == api.OpEq && a == b, op == api.OpLess && a < b:
		return 1
	}
	return 0
}

func TestP1_1DoFollowsTheChapter(t *testing.T) {
	check := func(a, b int) {
		for _, op := range ops {
			if got, e := Do(op, a, b); got != slow(op, a, b) || e != api.OK {
				t.Fatalf("Do(%d, %d, %d) = %d, %d, want %d, OK", op, a, b, got, e, slow(op, a, b))
			}
		}
	}
	for _, a := range rightNumbers {
		for _, b := range rightNumbers {
			check(a, b)
		}
	}
	for a := least; a <= greatest; a += 331 {
		for b := least; b <= greatest; b += 547 {
			check(a, b)
		}
	}
}

// refused: ErrPrimForm, and 0 beside it (R2).
func refused(t *testing.T, op, a, b int) {
	t.Helper()
	if got, e := Do(op, a, b); got != 0 || e != api.ErrPrimForm {
		t.Errorf("Do(%d, %d, %d) = %d, %d, want 0, ErrPrimForm", op, a, b, got, e)
	}
}

func TestP1_1DoRefusesNumbers(t *testing.T) {
	for _, op := range ops {
		for _, far := range wrongNumbers {
			for _, near := range rightNumbers {
				refused(t, op, near, far)
				refused(t, op, far, near)
			}
			for _, other := range wrongNumbers {
				refused(t, op, far, other)
			}
		}
	}
}

func TestP1_1DoRefusesOps(t *testing.T) {
	for _, op := range []int{-1, 5, -5, 6, 256, 65536, 1 << 30, math.MaxInt, math.MinInt} {
		for _, a := range rightNumbers {
			refused(t, op, a, a)
			refused(t, op, a, 1)
			refused(t, op, a, greatest+1)
			refused(t, op, least-1, a)
		}
	}
}
