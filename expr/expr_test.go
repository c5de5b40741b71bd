package expr

import (
	"math"
	"math/rand/v2"
	"reflect"
	"slices"
	"strconv"
	"testing"

	"sleuth/api"
)

// The limits as the document tells them, so that the tests do not lean on what the package leans on.
const (
	maxNum    = 32767
	maxTag    = 99
	maxArity  = 3
	maxDefs   = 8
	maxParams = 3
	maxBody   = 24
	maxLevels = 8
	lastOp    = 4
)

// tree is a part with all that is in it.
type tree struct {
	api.Expr
	in []tree
}

func num(n int) tree              { return tree{Expr: api.Expr{Kind: api.ExprNum, Num: n}} }
func variable(n int) tree         { return tree{Expr: api.Expr{Kind: api.ExprVar, Num: n}} }
func fail() tree                  { return tree{Expr: api.Expr{Kind: api.ExprError}} }
func call(f int, in ...tree) tree { return tree{api.Expr{Kind: api.ExprCall, Num: f}, in} }
func con(tag int, in ...tree) tree {
	return tree{api.Expr{Kind: api.ExprCon, Num: tag}, in}
}
func prims(op int, in ...tree) tree { return tree{api.Expr{Kind: api.ExprPrim, Num: op}, in} }
func cases(tag, bind int, in ...tree) tree {
	return tree{api.Expr{Kind: api.ExprCase, Num: tag, Bind: bind}, in}
}
func let(in ...tree) tree { return tree{api.Expr{Kind: api.ExprLet}, in} }

// laid: a definition of that tree, each part right behind all that is in it.
func laid(params int, t tree) api.Def {
	var body []api.Expr
	var lay func(t tree) int
	lay = func(t tree) int {
		var kids []int
		for _, k := range t.in {
			kids = append(kids, lay(k))
		}
		t.Kids = kids
		body = append(body, t.Expr)
		return len(body) - 1
	}
	lay(t)
	return api.Def{Params: params, Body: body}
}

// parts: a definition of these parts, as they stand.
func parts(params int, body ...api.Expr) api.Def {
	return api.Def{Params: params, Body: body}
}

// deepCopy: the same, in other memory, with what stands in the spare room.
func deepCopy(d api.Def) api.Def {
	body := slices.Clone(d.Body[:cap(d.Body)])
	for i, e := range body {
		body[i].Kids = slices.Clone(e.Kids[:cap(e.Kids)])[:len(e.Kids)]
	}
	d.Body = body[:len(d.Body)]
	return d
}

// sameRoom: are two the same, what stands in the spare room of the first one's size too?
func sameRoom(a, b api.Def) bool {
	if a.Params != b.Params || len(a.Body) != len(b.Body) {
		return false
	}
	for i, e := range a.Body[:cap(a.Body)] {
		f := b.Body[:cap(b.Body)][i]
		if len(e.Kids) != len(f.Kids) || !slices.Equal(e.Kids[:cap(e.Kids)], f.Kids[:cap(e.Kids)]) {
			return false
		}
		e.Kids, f.Kids = nil, nil
		if !reflect.DeepEqual(e, f) {
			return false
		}
	}
	return true
}

// answers: May(d) is that, twice, and d stays as it is (R4, R5).
func answers(t *testing.T, d api.Def, want bool) {
	t.Helper()
	before := deepCopy(d)
	for range 2 {
		if got := May(d); got != want {
			t.Errorf("May(%.400s) = %v, want %v", told(d), got, want)
		}
	}
	if !sameRoom(d, before) {
		t.Errorf("May changed %.400s to %.400s", told(before), told(d))
	}
}

// told: a definition as a text, without its greater part if it is great.
func told(d api.Def) string {
	s := strconv.Itoa(d.Params) + " params, " + strconv.Itoa(len(d.Body)) + " parts:"
	for _, e := range d.Body[:min(len(d.Body), 40)] {
		s += " {" + strconv.Itoa(e.Kind) + " " + strconv.Itoa(e.Num) + " " + strconv.Itoa(e.Bind) + " ["
		for _, k := range e.Kids[:min(len(e.Kids), 8)] {
			s += " " + strconv.Itoa(k)
		}
		s += " ] of " + strconv.Itoa(len(e.Kids)) + "}"
	}
	return s
}

func may(t *testing.T, d api.Def) {
	t.Helper()
	answers(t, d, true)
}

func mayNot(t *testing.T, d api.Def) {
	t.Helper()
	answers(t, d, false)
}

func TestP5_1OnePart(t *testing.T) {
	for params := range maxParams + 1 {
		for _, n := range []int{0, 1, -1, 7, 255, 256, -300, maxNum, -maxNum - 1} {
			may(t, laid(params, num(n)))
		}
		for n := range params {
			may(t, laid(params, variable(n)))
		}
		for f := range maxDefs {
			may(t, laid(params, call(f)))
		}
		for tag := range maxTag + 1 {
			may(t, laid(params, con(tag)))
		}
		may(t, laid(params, fail()))
		mayNot(t, laid(params, prims(0)))
		mayNot(t, laid(params, cases(0, 0)))
		mayNot(t, laid(params, let()))
	}
}

func TestP5_1PartsInParts(t *testing.T) {
	may(t, laid(0, call(1, num(1))))
	may(t, laid(0, call(7, num(1), con(2), fail())))
	may(t, laid(0, con(4, num(1), num(1), num(1))))
	for op := range lastOp + 1 {
		may(t, laid(2, prims(op, variable(0), variable(1))))
	}
	may(t, laid(1, cases(1, 2, variable(0), prims(0, variable(1), variable(2)), num(0))))
	may(t, laid(1, let(call(1, variable(0)), prims(2, variable(1), variable(0)))))
	may(t, laid(2, cases(0, 0, prims(4, variable(0), variable(1)), fail(), con(1, variable(1), call(2, variable(0))))))
	may(t, laid(3, let(con(1, variable(2)), cases(1, 1, variable(3), let(variable(4), con(2, variable(4), variable(5))), call(3, variable(0), variable(1), variable(3))))))
	may(t, laid(1, cases(1, 2, variable(0), con(1, call(1, variable(1)), call(2, variable(2))), con(0))))
	may(t, laid(0, let(let(num(1), variable(0)), let(variable(0), prims(0, variable(0), variable(1))))))
	may(t, laid(0, cases(9, 1, cases(8, 1, con(8, num(1)), variable(0), fail()), variable(0), cases(7, 1, con(7), variable(0), num(3)))))
}

func TestP5_1Params(t *testing.T) {
	for params := -5; params <= 12; params++ {
		answers(t, laid(params, num(1)), params >= 0 && params <= maxParams)
	}
	for _, params := range []int{math.MinInt, math.MinInt + 1, math.MaxInt, math.MaxInt - 1, 1 << 32, 1<<32 + 1, -1 << 32, 256, 65536} {
		mayNot(t, laid(params, num(1)))
		mayNot(t, laid(params, variable(0)))
	}
}

// chain: that many parts, each one but the first with the one ahead of it as its Kid.
func chain(size int, e api.Expr) []api.Expr {
	body := []api.Expr{{Kind: api.ExprNum}}
	for len(body) < size {
		e.Kids = []int{len(body) - 1}
		body = append(body, e)
	}
	return body
}

func TestP5_1Sizes(t *testing.T) {
	mayNot(t, api.Def{})
	mayNot(t, api.Def{Params: 1, Body: []api.Expr{}})
	mayNot(t, api.Def{Body: make([]api.Expr, 0, 3)})
	for size := 1; size <= 2*maxBody; size++ {
		answers(t, parts(0, chain(size, api.Expr{Kind: api.ExprCon})...), size <= maxBody)
		answers(t, parts(3, chain(size, api.Expr{Kind: api.ExprCall, Num: 7})...), size <= maxBody)
	}
	wide := num(0)
	for range 8 {
		// 3 parts more each time: at last 1 + 3 * 8.
		wide = con(1, num(1), wide, fail())
		answers(t, laid(0, wide), len(laid(0, wide).Body) <= maxBody)
	}
	if n := len(laid(0, wide).Body); n != maxBody+1 {
		t.Errorf("the widest body has %d parts", n)
	}
	may(t, laid(0, con(1, con(1, con(1, num(1), num(1), num(1)), con(1, num(1), num(1), num(1)), con(1, num(1), num(1))), con(1, con(1, num(1), num(1), num(1)), con(1, num(1), num(1), num(1)), num(1)))))
}

// TestP5_1Nums: Num at both ends of what each Kind allows, and beyond.
func TestP5_1Nums(t *testing.T) {
	rows := []struct {
		part      func(n int) tree
		low, high int
	}{
		{num, -maxNum - 1, maxNum},
		{variable, 0, 1},
		{func(n int) tree { return call(n) }, 0, maxDefs - 1},
		{func(n int) tree { return call(n, num(1), num(2), num(3)) }, 0, maxDefs - 1},
		{func(n int) tree { return con(n) }, 0, maxTag},
		{func(n int) tree { return con(n, num(1), num(2), num(3)) }, 0, maxTag},
		{func(n int) tree { return prims(n, num(1), num(2)) }, 0, lastOp},
		{func(n int) tree { return cases(n, 0, num(1), num(2), num(3)) }, 0, maxTag},
		{func(n int) tree { return cases(n, 3, num(1), num(2), num(3)) }, 0, maxTag},
		{func(n int) tree { b := let(num(1), num(2)); b.Num = n; return b }, 0, 0},
		{func(n int) tree { b := fail(); b.Num = n; return b }, 0, 0},
	}
	for _, r := range rows {
		tries := []int{math.MinInt, math.MaxInt, -1 << 32, 1 << 32, 1<<32 + 1, 1 << 16, -1 << 16, 1<<16 + 1, 256, -256}
		for n := -110; n <= 110; n++ {
			tries = append(tries, n)
		}
		for n := -3; n <= 3; n++ {
			tries = append(tries, r.low+n, r.high+n)
		}
		for _, n := range tries {
			answers(t, laid(2, r.part(n)), n >= r.low && n <= r.high)
			// Deep within others it is the same.
			answers(t, laid(2, prims(0, con(1, r.part(n)), num(0))), n >= r.low && n <= r.high)
		}
	}
}

// TestP5_1Binds: Bind at both ends of what a case allows, and 0 alone for each other Kind.
func TestP5_1Binds(t *testing.T) {
	all := []tree{
		num(0), num(3), variable(0), call(0), call(1, num(1)), con(0), con(1, num(1), num(2)), prims(0, num(1), num(2)), let(num(1), num(2)), fail(),
		cases(0, 0, num(1), num(2), num(3)), cases(9, 0, fail(), variable(0), con(1)),
	}
	for _, part := range all {
		most := 0
		if part.Kind == api.ExprCase {
			most = maxArity
		}
		for _, bind := range []int{math.MinInt, -1 << 32, -2, -1, 0, 1, 2, 3, 4, 5, 8, 9, 256, 1 << 32, 1<<32 + 1, math.MaxInt} {
			part.Bind = bind
			answers(t, laid(1, part), bind >= 0 && bind <= most)
			answers(t, laid(1, con(1, num(1), part)), bind >= 0 && bind <= most)
		}
	}
}

// TestP5_1HowManyKids: as many Kids as each Kind allows, and others.
func TestP5_1HowManyKids(t *testing.T) {
	rows := []struct {
		part        tree
		least, most int
	}{
		{num(1), 0, 0}, {variable(0), 0, 0}, {call(1), 0, maxParams}, {con(1), 0, maxArity}, {prims(0), 2, 2},
		{cases(1, 0), 3, 3}, {cases(1, 2), 3, 3}, {let(), 2, 2}, {fail(), 0, 0},
	}
	for _, r := range rows {
		for n := range maxBody {
			r.part.in = slices.Repeat([]tree{num(1)}, n)
			answers(t, laid(1, r.part), n >= r.least && n <= r.most)
			if n < maxBody-2 {
				answers(t, laid(1, con(1, num(1), r.part)), n >= r.least && n <= r.most)
			}
		}
		// No Kids and an empty list of them are one.
		e := r.part.Expr
		e.Kids = []int{}
		answers(t, parts(1, e), r.least == 0)
		e.Kids = nil
		answers(t, parts(1, e), r.least == 0)
	}
}

func TestP5_1Kinds(t *testing.T) {
	for _, kind := range []int{math.MinInt, -1 << 32, -8, -2, -1, 8, 9, 10, 16, 255, 256, 1 << 32, 1<<32 + 1, math.MaxInt} {
		for n := range 4 {
			e := api.Expr{Kind: kind, Kids: []int{0, 1, 2}[:n]}
			mayNot(t, parts(1, append(slices.Repeat([]api.Expr{{}}, n), e)...))
			inner := append(slices.Repeat([]api.Expr{{}}, n), e, api.Expr{Kind: api.ExprCon, Kids: []int{n}})
			mayNot(t, parts(1, inner...))
		}
	}
}

// TestP5_1Variables: a variable at the last level there, and at the next one.
func TestP5_1Variables(t *testing.T) {
	for params := range maxParams + 1 {
		up := func(more int, body func(v tree) tree) {
			t.Helper()
			for n := -2; n <= maxLevels+2; n++ {
				answers(t, laid(params, body(variable(n))), n >= 0 && n < params+more)
			}
		}
		up(0, func(v tree) tree { return v })
		up(0, func(v tree) tree { return call(0, num(1), v) })
		up(0, func(v tree) tree { return call(0, v, num(1), num(1)) })
		up(0, func(v tree) tree { return con(0, num(1), v, num(1)) })
		up(0, func(v tree) tree { return prims(0, num(1), v) })
		up(0, func(v tree) tree { return prims(0, v, num(1)) })
		for bind := range maxArity + 1 {
			up(0, func(v tree) tree { return cases(0, bind, v, num(1), num(1)) })
			up(bind, func(v tree) tree { return cases(0, bind, num(1), v, num(1)) })
			up(0, func(v tree) tree { return cases(0, bind, num(1), num(1), v) })
			up(bind, func(v tree) tree { return cases(0, bind, num(1), con(1, num(2), call(3, v)), num(1)) })
			up(bind+1, func(v tree) tree { return cases(0, bind, num(1), let(num(1), v), num(1)) })
			up(bind, func(v tree) tree { return cases(0, bind, num(1), let(v, num(1)), num(1)) })
			up(1, func(v tree) tree { return let(num(1), cases(0, bind, num(1), num(1), v)) })
			up(bind+1, func(v tree) tree { return let(num(1), cases(0, bind, num(1), v, num(1))) })
			up(bind, func(v tree) tree { return cases(0, bind, num(1), cases(1, 3-bind, v, num(1), num(1)), num(1)) })
			up(3, func(v tree) tree { return cases(0, bind, num(1), cases(1, 3-bind, num(1), v, num(1)), num(1)) })
		}
		up(0, func(v tree) tree { return let(v, num(1)) })
		up(1, func(v tree) tree { return let(num(1), v) })
		up(1, func(v tree) tree { return let(let(num(1), v), num(1)) })
		up(2, func(v tree) tree { return let(num(1), let(num(1), v)) })
		// What was bound in one part is not there in the next one.
		up(0, func(v tree) tree { return prims(0, let(num(1), num(1)), v) })
		up(0, func(v tree) tree { return prims(0, v, let(num(1), num(1))) })
		up(0, func(v tree) tree { return con(0, cases(0, 3, num(1), num(1), num(1)), v) })
	}
}

// lets: t within that many lets.
func lets(n int, t tree) tree {
	for range n {
		t = let(num(1), t)
	}
	return t
}

// TestP5_1MostLevels: up to MaxLevels levels, and one more, whether or not a variable stands there.
func TestP5_1MostLevels(t *testing.T) {
	for params := range maxParams + 1 {
		for n := range maxLevels + 3 {
			answers(t, laid(params, lets(n, num(1))), params+n <= maxLevels)
			answers(t, laid(params, lets(n, con(1))), params+n <= maxLevels)
			if params+n > 0 {
				answers(t, laid(params, lets(n, variable(params+n-1))), params+n <= maxLevels)
				answers(t, laid(params, lets(n, variable(0))), params+n <= maxLevels)
			}
			for bind := range maxArity + 1 {
				deep := lets(n, cases(1, bind, num(1), num(1), num(1)))
				if len(laid(params, deep).Body) <= maxBody {
					answers(t, laid(params, deep), params+n+bind <= maxLevels)
				}
				under := cases(1, bind, num(1), lets(n, fail()), num(1))
				if len(laid(params, under).Body) <= maxBody {
					answers(t, laid(params, under), params+n+bind <= maxLevels)
				}
			}
		}
	}
	twice := func(first, second int) tree {
		return cases(1, first, num(1), cases(1, second, num(1), cases(1, 0, num(1), num(1), num(1)), num(1)), num(1))
	}
	may(t, laid(2, twice(3, 3)))
	may(t, laid(3, twice(2, 3)))
	mayNot(t, laid(3, twice(3, 3)))
	// Beside what is deep there are as few levels as ahead of it.
	may(t, laid(3, con(1, lets(5, num(1)), lets(5, variable(7)))))
	may(t, laid(3, cases(1, 3, lets(5, num(1)), lets(2, variable(7)), num(1))))
	mayNot(t, laid(3, con(1, lets(5, num(1)), lets(5, variable(8)))))
	mayNot(t, laid(3, con(1, lets(5, num(1)), lets(6, num(1)))))
}

// TestP5_1WrongKids: Kids that are not ahead of their part, or not there, or more than once somebody's, or nobody's.
func TestP5_1WrongKids(t *testing.T) {
	one := api.Expr{Kind: api.ExprNum, Num: 1}
	pair := func(a, b int) api.Expr { return api.Expr{Kind: api.ExprPrim, Kids: []int{a, b}} }
	con := func(kids ...int) api.Expr { return api.Expr{Kind: api.ExprCon, Kids: kids} }
	may(t, parts(0, one, one, pair(0, 1)))
	may(t, parts(0, one, one, pair(1, 0)))
	for _, k := range []int{-1, -2, 2, 3, 4, 24, 25, math.MinInt, math.MaxInt, 1 << 32, 1<<32 + 1, -1 << 32, 256} {
		mayNot(t, parts(0, one, one, pair(0, k)))
		mayNot(t, parts(0, one, one, pair(k, 1)))
		mayNot(t, parts(0, one, one, con(0, 1, k)))
		mayNot(t, parts(0, one, one, con(k)))
		mayNot(t, parts(0, one, con(0), con(1, k)))
	}
	// The part itself, one behind it, the last one, two that hold each other.
	mayNot(t, parts(0, con(0)))
	mayNot(t, parts(0, con(0), con(0)))
	mayNot(t, parts(0, con(1), one))
	mayNot(t, parts(0, con(1), con()))
	mayNot(t, parts(0, con(1), con(0)))
	mayNot(t, parts(0, con(1), one, con(0)))
	mayNot(t, parts(0, con(2), one, con(1)))
	mayNot(t, parts(0, one, con(3), con(0), con(1, 2)))
	mayNot(t, parts(0, con(1), con(0), one))
	// Twice one part's, or two parts'.
	mayNot(t, parts(0, one, pair(0, 0)))
	mayNot(t, parts(0, one, one, pair(0, 0)))
	mayNot(t, parts(0, one, one, con(0, 1, 0)))
	mayNot(t, parts(0, one, con(0), con(0, 1)))
	mayNot(t, parts(0, one, con(0), con(0), con(1, 2)))
	mayNot(t, parts(0, one, con(0), con(0)))
	mayNot(t, parts(0, one, api.Expr{Kind: api.ExprLet, Kids: []int{0, 0}}))
	mayNot(t, parts(0, one, one, api.Expr{Kind: api.ExprCase, Kids: []int{0, 1, 1}}))
	mayNot(t, parts(0, one, one, one, api.Expr{Kind: api.ExprCase, Kids: []int{0, 1, 0}}))
	// Nobody's: alone, with something in it, ahead of all, in the middle, right ahead of the last one.
	mayNot(t, parts(0, one, one))
	mayNot(t, parts(0, one, one, one))
	mayNot(t, parts(0, one, con(0), one))
	mayNot(t, parts(0, one, one, con(1)))
	mayNot(t, parts(0, one, one, con(0)))
	mayNot(t, parts(0, one, one, con(0), con(2)))
	mayNot(t, parts(0, one, con(0), one, con(1)))
	mayNot(t, parts(1, api.Expr{Kind: api.ExprVar}, api.Expr{Kind: api.ExprVar}))
	mayNot(t, parts(0, one, api.Expr{Kind: api.ExprError}))
	// Kids where there are none.
	for _, kind := range []int{api.ExprNum, api.ExprVar, api.ExprError} {
		mayNot(t, parts(1, one, api.Expr{Kind: kind, Kids: []int{0}}))
		mayNot(t, parts(1, api.Expr{Kind: kind, Kids: []int{0}}))
		mayNot(t, parts(1, api.Expr{Kind: kind, Kids: []int{-1}}))
	}
}

// moved: the parts in another row; the part that stood at i goes to row[i].
func moved(d api.Def, row []int) api.Def {
	body := make([]api.Expr, len(d.Body))
	for i, e := range d.Body {
		var kids []int
		for _, k := range e.Kids {
			kids = append(kids, row[k])
		}
		e.Kids = kids
		body[row[i]] = e
	}
	d.Body = body
	return d
}

// TestP5_1EachRow: parts may stand in any row in which each is behind its Kids.
func TestP5_1EachRow(t *testing.T) {
	some := []api.Def{
		laid(1, let(con(1, variable(0)), cases(1, 1, variable(1), variable(2), num(0)))),
		laid(0, con(1, con(2, num(1)), prims(0, num(2), num(3)))),
		laid(2, cases(1, 2, call(1, variable(0)), let(variable(3), variable(4)), variable(1))),
		laid(0, con(1, con(1, con(1, con(1, con(1)))))),
	}
	for _, d := range some {
		yes := 0
		rows(len(d.Body), func(row []int) {
			fine := true
			for i, e := range d.Body {
				for _, k := range e.Kids {
					fine = fine && row[k] < row[i]
				}
			}
			if fine {
				yes++
			}
			answers(t, moved(d, row), fine)
		})
		if yes == 0 {
			t.Errorf("no row of %s may be", told(d))
		}
	}
}

// rows goes through all rows of the numbers below n.
func rows(n int, do func(row []int)) {
	var more func(row []int)
	more = func(row []int) {
		if len(row) == n {
			do(row)
			return
		}
		for k := range n {
			if !slices.Contains(row, k) {
				more(append(slices.Clone(row), k))
			}
		}
	}
	more(nil)
}

// kindRow is what the chapter tells of a Kind; high -1: below the levels there.
type kindRow struct {
	low, high, bind, least, most int
}

// kindRows: of each Kind, by its number.
var kindRows = []kindRow{
	{-32768, 32767, 0, 0, 0}, {0, -1, 0, 0, 0}, {0, 7, 0, 0, 3}, {0, 99, 0, 0, 3}, {0, 4, 0, 2, 2}, {0, 99, 3, 3, 3}, {0, 0, 0, 2, 2}, {0, 0, 0, 0, 0},
}

// above is whose Kid a part is, and as which one.
type above struct {
	part, as int
}

// slow: what is asked of May, rule by rule: first who is whose, then each part with the levels up from it to the last one.
func slow(d api.Def) bool {
	size := len(d.Body)
	if d.Params < 0 || d.Params > 3 || size < 1 || size > 24 {
		return false
	}
	over := make([][]above, size)
	for p, e := range d.Body {
		for i, k := range e.Kids {
			if k < 0 || k >= size || k >= p {
				return false
			}
			over[k] = append(over[k], above{p, i})
		}
	}
	for at := range size - 1 {
		if len(over[at]) != 1 {
			return false
		}
	}
	for at, e := range d.Body {
		levels := d.Params
		for up := at; up != size-1; up = over[up][0].part {
			if o := over[up][0]; o.as == 1 {
				levels += []int{0, 0, 0, 0, 0, d.Body[o.part].Bind, 1, 0}[max(0, min(7, d.Body[o.part].Kind))]
			}
		}
		if levels > 8 || !slowPart(e, levels) {
			return false
		}
	}
	return true
}

// slowPart: is a part as its Kind's row tells?
func slowPart(e api.Expr, levels int) bool {
	if e.Kind < 0 || e.Kind >= len(kindRows) {
		return false
	}
	r := kindRows[e.Kind]
	if r.high == -1 {
		r.high = levels - 1
	}
	return e.Num >= r.low && e.Num <= r.high && e.Bind >= 0 && e.Bind <= r.bind && len(e.Kids) >= r.least && len(e.Kids) <= r.most
}

// agrees holds May against slow.
func agrees(t *testing.T, d api.Def) bool {
	t.Helper()
	want := slow(d)
	if got := May(d); got != want {
		t.Errorf("May(%.400s) = %v, want %v", told(d), got, want)
	}
	return want
}

// smallParts are parts of which all short bodies are made.
func smallParts() []api.Expr {
	var out []api.Expr
	for kind := -1; kind <= 8; kind++ {
		for _, kids := range [][]int{nil, {0}, {1}, {2}, {0, 1}, {1, 0}, {0, 0}, {-1, 0}, {0, 1, 2}} {
			for _, numBind := range [][2]int{{0, 0}, {1, 0}, {1, 1}, {5, 0}} {
				out = append(out, api.Expr{Kind: kind, Num: numBind[0], Bind: numBind[1], Kids: kids})
			}
		}
	}
	return out
}

func TestP5_1EachShortBody(t *testing.T) {
	all := smallParts()
	count := [2]int{}
	see := func(d api.Def) {
		if agrees(t, d) {
			count[1]++
		} else {
			count[0]++
		}
	}
	small := all[:0:0]
	for _, e := range all {
		for params := range 2 {
			see(parts(params, e))
			for _, f := range all {
				see(parts(params, e, f))
			}
		}
		if e.Kind >= 0 && e.Kind <= 7 && e.Num < 5 && (len(e.Kids) < 2 || e.Kids[0] >= 0 && e.Kids[1] > 0) {
			small = append(small, e)
		}
	}
	for _, e := range small {
		for _, f := range small {
			for _, g := range small {
				see(parts(1, e, f, g))
			}
		}
	}
	if count[0] == 0 || count[1] == 0 {
		t.Errorf("%d may not be, %d may", count[0], count[1])
	}
}

// grown: a part by chance, where there are so many levels, with at most so much in it.
func grown(r *rand.Rand, levels, deep int) tree {
	kind := r.IntN(8)
	if deep == 0 {
		kind = []int{api.ExprNum, api.ExprVar, api.ExprError, api.ExprCon, api.ExprCall}[r.IntN(5)]
	}
	some := func(n int) []tree {
		var in []tree
		for range n {
			in = append(in, grown(r, levels, deep-1))
		}
		return in
	}
	few := min(deep, 1) * r.IntN(4)
	switch {
	case kind == api.ExprVar && levels > 0:
		return variable(r.IntN(levels))
	case kind == api.ExprCall:
		return call(r.IntN(maxDefs), some(few)...)
	case kind == api.ExprCon:
		return con(r.IntN(maxTag+1), some(few)...)
	case kind == api.ExprPrim:
		return prims(r.IntN(lastOp+1), some(2)...)
	case kind == api.ExprCase:
		bind := r.IntN(min(maxArity, maxLevels-levels) + 1)
		in := some(3)
		in[1] = grown(r, levels+bind, deep-1)
		return cases(r.IntN(maxTag+1), bind, in...)
	case kind == api.ExprLet && levels < maxLevels:
		in := some(2)
		in[1] = grown(r, levels+1, deep-1)
		return let(in...)
	case kind == api.ExprError:
		return fail()
	}
	return num(r.IntN(65536) - 32768)
}

// mixed: the parts in another row by chance, each still behind its Kids.
func mixed(r *rand.Rand, d api.Def) api.Def {
	row := make([]int, len(d.Body))
	done := make([]bool, len(d.Body))
	for next := range row {
		var free []int
		for at, e := range d.Body {
			if !done[at] && !slices.ContainsFunc(e.Kids, func(k int) bool { return !done[k] }) {
				free = append(free, at)
			}
		}
		at := free[r.IntN(len(free))]
		done[at] = true
		row[at] = next
	}
	return moved(d, row)
}

// changed: one thing else, by chance.
func changed(r *rand.Rand, d api.Def) api.Def {
	d = deepCopy(d)
	e := &d.Body[r.IntN(len(d.Body))]
	odd := []int{-32769, -32768, -1, 0, 1, 2, 3, 4, 5, 7, 8, 9, 99, 100, 32767, 32768, math.MinInt, math.MaxInt}
	switch r.IntN(8) {
	case 0:
		e.Kind = r.IntN(10) - 1
	case 1:
		e.Num = odd[r.IntN(len(odd))]
	case 2:
		e.Bind = r.IntN(6) - 1
	case 3:
		e.Kids = append(e.Kids, r.IntN(len(d.Body)+2)-1)
	case 4:
		if len(e.Kids) > 0 {
			e.Kids = e.Kids[:len(e.Kids)-1]
		}
	case 5:
		if len(e.Kids) > 0 {
			e.Kids[r.IntN(len(e.Kids))] = r.IntN(len(d.Body)+2) - 1
		}
	case 6:
		d.Params = r.IntN(6) - 1
	default:
		a, b := r.IntN(len(d.Body)), r.IntN(len(d.Body))
		d.Body[a], d.Body[b] = d.Body[b], d.Body[a]
	}
	return d
}

func TestP5_1ByChance(t *testing.T) {
	r := rand.New(rand.NewPCG(5, 1))
	count := [2]int{}
	for range 20000 {
		params := r.IntN(maxParams + 1)
		d := laid(params, grown(r, params, 1+r.IntN(5)))
		if len(d.Body) > maxBody {
			mayNot(t, d)
			continue
		}
		may(t, d)
		d = mixed(r, d)
		may(t, d)
		for range 8 {
			if agrees(t, changed(r, d)) {
				count[1]++
			} else {
				count[0]++
			}
		}
	}
	if count[0] < 1000 || count[1] < 1000 {
		t.Errorf("%d may not be, %d may", count[0], count[1])
	}
}

// TestP5_1Great: what is far too great is refused, and soon (R1).
func TestP5_1Great(t *testing.T) {
	const size = 1 << 20
	up := make([]int, size)
	for i := range up {
		up[i] = i
	}
	for kind := -1; kind <= 8; kind++ {
		mayNot(t, parts(0, api.Expr{Kind: kind, Kids: up}))
		mayNot(t, parts(0, api.Expr{}, api.Expr{Kind: kind, Kids: make([]int, size)}))
		mayNot(t, parts(0, api.Expr{Kind: kind, Kids: up}, api.Expr{Kind: api.ExprCon, Kids: []int{0}}))
	}
	mayNot(t, api.Def{Body: make([]api.Expr, size)})
	mayNot(t, api.Def{Body: chain(size, api.Expr{Kind: api.ExprCon})})
	mayNot(t, api.Def{Body: slices.Repeat([]api.Expr{{Kind: api.ExprCon, Kids: []int{0, 1, 2}}}, size)})
	// A part that is shared over and over, as a tree, would have 2^23 or 3^23 parts.
	twice, thrice := []api.Expr{{}}, []api.Expr{{}}
	for at := range maxBody - 1 {
		twice = append(twice, api.Expr{Kind: api.ExprLet, Kids: []int{at, at}})
		thrice = append(thrice, api.Expr{Kind: api.ExprCon, Kids: []int{at, at, at}})
	}
	mayNot(t, parts(0, twice...))
	mayNot(t, parts(0, thrice...))
}

// TestP5_1SpareRoom: what stands behind a list's end is neither read nor changed (R4).
func TestP5_1SpareRoom(t *testing.T) {
	kids := []int{0, 1, 0, -7, 99}
	body := []api.Expr{{Num: 1}, {Num: 2}, {Kind: api.ExprCon, Kids: kids[:2]}, {Kind: -1, Num: -1, Bind: -1, Kids: kids[3:]}, {Kind: 77}}
	may(t, api.Def{Body: body[:3]})
	mayNot(t, api.Def{Body: body})
	mayNot(t, api.Def{Body: body[:2]})
	may(t, api.Def{Body: body[:1]})
	mayNot(t, api.Def{Body: body[:0]})
	// Parts whose Kids share their memory may be as others.
	three := []int{0, 1, 2}
	may(t, parts(0, api.Expr{}, api.Expr{Kind: api.ExprCon, Kids: three[:1]}, api.Expr{}, api.Expr{Kind: api.ExprCon, Kids: three[1:]}))
	if !slices.Equal(three, []int{0, 1, 2}) || !slices.Equal(kids, []int{0, 1, 0, -7, 99}) {
		t.Error("a list of Kids was changed")
	}
}

// read: a definition out of any bytes, each one a small number.
func read(data []byte) api.Def {
	take := func() int {
		if len(data) == 0 {
			return 0
		}
		n := int(int8(data[0]))
		data = data[1:]
		return n
	}
	d := api.Def{Params: take()}
	for len(data) > 0 {
		e := api.Expr{Kind: take(), Num: take(), Bind: take()}
		if e.Num == math.MinInt8 || e.Num == math.MaxInt8 {
			e.Num *= 1 << 10
		}
		for range min(max(take(), 0), 5) {
			e.Kids = append(e.Kids, take())
		}
		d.Body = append(d.Body, e)
	}
	return d
}

// written: bytes of which read tells d, if its numbers are small.
func written(d api.Def) []byte {
	data := []byte{byte(d.Params)}
	for _, e := range d.Body {
		data = append(data, byte(e.Kind), byte(e.Num), byte(e.Bind), byte(len(e.Kids)))
		for _, k := range e.Kids {
			data = append(data, byte(k))
		}
	}
	return data
}

func FuzzP5_1(f *testing.F) {
	r := rand.New(rand.NewPCG(5, 2))
	for range 200 {
		params := r.IntN(maxParams + 1)
		f.Add(written(laid(params, grown(r, params, 1+r.IntN(4)))))
	}
	f.Fuzz(func(t *testing.T, data []byte) {
		d := read(data)
		answers(t, d, slow(d))
	})
}

// TestP5_1FromSeveralAtOnce: each of several goroutines gets what one alone gets, of one and the same definition (R5).
func TestP5_1FromSeveralAtOnce(t *testing.T) {
	good := laid(3, let(con(1, variable(2)), cases(1, 1, variable(3), variable(4), call(3, variable(0)))))
	bad := laid(3, let(con(1, variable(3)), cases(1, 1, variable(3), variable(4), call(3, variable(0)))))
	for i := range 8 {
		t.Run(strconv.Itoa(i), func(t *testing.T) {
			t.Parallel()
			for range 200 {
				may(t, good)
				mayNot(t, bad)
			}
		})
	}
}
