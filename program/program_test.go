package program

import (
	"math"
	"math/rand/v2"
	"reflect"
	"slices"
	"strconv"
	"testing"

	"sleuth/api"
	"sleuth/expr"
)

// The limits as the document tells them, so that the tests do not lean on what the package leans on.
const (
	maxDefs   = 8
	maxParams = 3
	maxBody   = 24
	maxLevels = 8
)

// tree is a part with all that is in it.
type tree struct {
	api.Expr
	in []tree
}

func num(n int) tree              { return tree{Expr: api.Expr{Kind: api.ExprNum, Num: n}} }
func variable(n int) tree         { return tree{Expr: api.Expr{Kind: api.ExprVar, Num: n}} }
func fail() tree                  { return tree{Expr: api.Expr{Kind: api.ExprError}} }
func call(f int, in ...tree) tree { return tree{api.Expr{Kind: api.ExprCall, Num: f}, in} }
func con(tag int, in ...tree) tree {
	return tree{api.Expr{Kind: api.ExprCon, Num: tag}, in}
}
func prims(op int, in ...tree) tree { return tree{api.Expr{Kind: api.ExprPrim, Num: op}, in} }
func cases(tag, bind int, in ...tree) tree {
	return tree{api.Expr{Kind: api.ExprCase, Num: tag, Bind: bind}, in}
}
func let(in ...tree) tree { return tree{api.Expr{Kind: api.ExprLet}, in} }

// ones: that many parts.
func ones(n int) []tree {
	return slices.Repeat([]tree{num(1)}, n)
}

// laid: a definition of that tree, each part right behind all that is in it.
func laid(params int, t tree) api.Def {
	var body []api.Expr
	var lay func(t tree) int
	lay = func(t tree) int {
		var kids []int
		for _, k := range t.in {
			kids = append(kids, lay(k))
		}
		t.Kids = kids
		body = append(body, t.Expr)
		return len(body) - 1
	}
	lay(t)
	return api.Def{Params: params, Body: body}
}

// program: of these definitions, main first.
func program(defs ...api.Def) api.Program {
	return api.Program{Defs: defs}
}

// withAt: the program with another definition there.
func withAt(p api.Program, at int, d api.Def) api.Program {
	defs := slices.Clone(p.Defs)
	defs[at] = d
	return api.Program{Defs: defs}
}

// deepCopy: the same, in other memory, with what stands in the spare room.
func deepCopy(p api.Program) api.Program {
	defs := slices.Clone(p.Defs[:cap(p.Defs)])
	for i, d := range defs {
		body := slices.Clone(d.Body[:cap(d.Body)])
		for j, e := range body {
			body[j].Kids = slices.Clone(e.Kids[:cap(e.Kids)])[:len(e.Kids)]
		}
		defs[i].Body = body[:len(d.Body)]
	}
	return api.Program{Defs: defs[:len(p.Defs)]}
}

// sameRoom: are two the same, what stands in the spare room of the first one's size too?
func sameRoom(a, b api.Program) bool {
	if len(a.Defs) != len(b.Defs) {
		return false
	}
	for i, d := range a.Defs[:cap(a.Defs)] {
		c := b.Defs[:cap(b.Defs)][i]
		if d.Params != c.Params || len(d.Body) != len(c.Body) || !sameParts(d.Body[:cap(d.Body)], c.Body[:cap(c.Body)]) {
			return false
		}
	}
	return true
}

// sameParts: is each part of a the same as that of b, the spare room of its Kids too?
func sameParts(a, b []api.Expr) bool {
	for i, e := range a {
		f := b[i]
		if len(e.Kids) != len(f.Kids) || !slices.Equal(e.Kids[:cap(e.Kids)], f.Kids[:cap(f.Kids)][:cap(e.Kids)]) {
			return false
		}
		e.Kids, f.Kids = nil, nil
		if !reflect.DeepEqual(e, f) {
			return false
		}
	}
	return true
}

// answers: May(p) is that, twice, and p stays as it is (R4, R5).
func answers(t *testing.T, p api.Program, want bool) {
	t.Helper()
	before := deepCopy(p)
	for range 2 {
		if got := May(p); got != want {
			t.Errorf("May(%.900s) = %v, want %v", told(p), got, want)
		}
	}
	if !sameRoom(p, before) {
		t.Errorf("May changed %.900s to %.900s", told(before), told(p))
	}
}

// told: a program as a text, without its greater part if it is great.
func told(p api.Program) string {
	s := strconv.Itoa(len(p.Defs)) + " definitions:"
	for _, d := range p.Defs[:min(len(p.Defs), 10)] {
		s += " [" + strconv.Itoa(d.Params) + " params, " + strconv.Itoa(len(d.Body)) + " parts:"
		for _, e := range d.Body[:min(len(d.Body), 30)] {
			s += " {" + strconv.Itoa(e.Kind) + " " + strconv.Itoa(e.Num) + " " + strconv.Itoa(e.Bind) + " ["
			for _, k := range e.Kids[:min(len(e.Kids), 5)] {
				s += " " + strconv.Itoa(k)
			}
			s += " ] of " + strconv.Itoa(len(e.Kids)) + "}"
		}
		s += "]"
	}
	return s
}

func may(t *testing.T, p api.Program) {
	t.Helper()
	answers(t, p, true)
}

func mayNot(t *testing.T, p api.Program) {
	t.Helper()
	answers(t, p, false)
}

func TestP6_1MainAlone(t *testing.T) {
	for _, body := range []tree{
		num(0), num(-32768), num(32767), fail(), con(0), con(99), call(0),
		con(7, num(1), num(2), num(3)), prims(4, num(1), num(2)), let(num(1), variable(0)),
		cases(99, 3, con(99, num(1), num(2), num(3)), variable(2), fail()),
		prims(0, call(0), call(0)), let(call(0), call(0)), con(1, call(0), call(0), call(0)),
		cases(0, 1, call(0), call(0), call(0)),
	} {
		may(t, program(laid(0, body)))
	}
}

// TestP6_1NoCalls: only a call's Num names a definition, whatever other parts' Nums are.
func TestP6_1NoCalls(t *testing.T) {
	for n := range 100 {
		may(t, program(laid(0, num(n))))
		may(t, program(laid(0, con(n))))
		may(t, program(laid(0, con(n, num(n), num(-n)))))
		may(t, program(laid(0, cases(n, 2, con(n), num(n), num(n)))))
		may(t, program(laid(0, con(1)), laid(2, con(n, variable(1)))))
	}
	for op := range 5 {
		may(t, program(laid(0, prims(op, num(1), num(2)))))
	}
	may(t, program(laid(0, con(1)), laid(3, variable(0)), laid(3, variable(1)), laid(3, variable(2))))
}

// TestP6_1Several: main and others that call one another, themselves and main, and some that nobody calls.
func TestP6_1Several(t *testing.T) {
	sum := laid(1, cases(1, 2, variable(0), prims(api.OpAdd, variable(1), call(1, variable(2))), num(0)))
	row := laid(2, cases(1, 0, prims(api.OpLess, variable(0), variable(1)), con(1, variable(0), call(2, prims(api.OpAdd, variable(0), num(1)), variable(1))), con(0)))
	may(t, program(laid(0, call(1, call(2, num(1), num(5)))), sum, row))
	may(t, program(laid(0, num(1)), sum, row))
	may(t, program(laid(0, num(1)), sum, row, laid(0, num(7)), laid(3, fail())))
	// There and back, through those ahead and those behind.
	may(t, program(laid(0, call(1, num(1))), laid(1, call(2, variable(0), variable(0))), laid(2, call(1, variable(1)))))
	may(t, program(laid(0, call(3, num(1), num(2), num(3))), laid(1, call(0)), laid(2, call(1, variable(1))), laid(3, call(2, variable(1), variable(2)))))
	// Main by all of them.
	may(t, program(laid(0, call(0)), laid(1, call(0)), laid(2, call(0)), laid(3, call(0))))
	// The same one, twice in one body and within itself.
	may(t, program(laid(0, call(1, call(1, call(1, num(1), num(2)), num(3)), call(1, num(4), num(5)))), laid(2, prims(0, variable(0), variable(1)))))
}

// TestP6_1EachCall: each definition calls each one, with as many Kids as that has Params and with all other numbers of them.
func TestP6_1EachCall(t *testing.T) {
	params := []int{0, 1, 2, 3, 0, 3, 2, 1}
	p := program()
	for _, n := range params {
		p.Defs = append(p.Defs, laid(n, num(n)))
	}
	may(t, p)
	for from, own := range params {
		for to, asked := range params {
			for kids := range maxParams + 3 {
				answers(t, withAt(p, from, laid(own, call(to, ones(kids)...))), kids == asked)
				answers(t, withAt(p, from, laid(own, con(1, call(to, ones(kids)...), num(2)))), kids == asked)
			}
		}
	}
}

// around are ways in which a call stands deep within a body; definition n, from 1 to 3, has n Params there.
func around() []func(c tree) tree {
	return []func(c tree) tree{
		func(c tree) tree { return c },
		func(c tree) tree { return con(1, c) },
		func(c tree) tree { return con(1, num(1), num(2), c) },
		func(c tree) tree { return con(1, con(2, num(1), con(3, c)), num(2)) },
		func(c tree) tree { return prims(0, c, num(1)) },
		func(c tree) tree { return prims(4, num(1), prims(3, c, num(2))) },
		func(c tree) tree { return let(c, variable(0)) },
		func(c tree) tree { return let(num(1), c) },
		func(c tree) tree { return let(let(num(1), c), let(variable(0), num(1))) },
		func(c tree) tree { return let(num(1), let(num(1), let(num(1), let(num(1), c)))) },
		func(c tree) tree { return cases(1, 0, c, num(1), num(2)) },
		func(c tree) tree { return cases(1, 3, num(1), c, num(2)) },
		func(c tree) tree { return cases(1, 2, num(1), num(2), c) },
		func(c tree) tree {
			return cases(1, 2, num(1), cases(2, 2, num(2), cases(3, 1, num(3), num(4), c), num(5)), num(6))
		},
		func(c tree) tree { return call(1, c) },
		func(c tree) tree { return call(2, num(1), c) },
		func(c tree) tree { return call(3, num(1), num(2), c) },
		func(c tree) tree { return let(con(1, num(1)), cases(1, 1, variable(0), prims(0, num(1), c), fail())) },
	}
}

// TestP6_1DeepCalls: one call among right parts, right and wrong, wherever it stands.
func TestP6_1DeepCalls(t *testing.T) {
	main := laid(0, num(1))
	takers := []api.Def{laid(1, num(1)), laid(2, num(1)), laid(3, num(1)), laid(2, num(1))}
	for _, put := range around() {
		inMain := func(c tree) api.Program {
			return program(slices.Concat([]api.Def{laid(0, put(c))}, takers)...)
		}
		inLast := func(c tree) api.Program {
			return program(slices.Concat([]api.Def{main}, takers, []api.Def{laid(0, put(c))})...)
		}
		for kids := range maxParams + 1 {
			answers(t, inMain(call(4, ones(kids)...)), kids == 2)
			answers(t, inLast(call(4, ones(kids)...)), kids == 2)
		}
		for to := -2; to <= maxDefs+1; to++ {
			answers(t, inMain(call(to, ones(2)...)), to == 2 || to == 4)
			answers(t, inLast(call(to, ones(2)...)), to == 2 || to == 4)
			answers(t, inMain(call(to)), to == 0)
			answers(t, inLast(call(to)), to == 0 || to == 5)
		}
	}
}

// TestP6_1Sizes: no definition, one, MaxDefs of them, one more, and many.
func TestP6_1Sizes(t *testing.T) {
	mayNot(t, api.Program{})
	mayNot(t, api.Program{Defs: []api.Def{}})
	mayNot(t, api.Program{Defs: make([]api.Def, 0, 4)})
	for size := range 3 * maxDefs {
		defs := slices.Repeat([]api.Def{laid(0, num(1))}, size)
		answers(t, program(defs...), size >= 1 && size <= maxDefs)
		defs = slices.Repeat([]api.Def{laid(0, call(0))}, size)
		answers(t, program(defs...), size >= 1 && size <= maxDefs)
	}
	for _, size := range []int{255, 256, 257, 258, 1 << 16, 1<<16 + 1, 1<<16 + maxDefs} {
		mayNot(t, program(slices.Repeat([]api.Def{laid(0, num(1))}, size)...))
	}
}

// TestP6_1FirstAndLast: calls of the first one, of the last one, and of the one behind it, by each of the definitions.
func TestP6_1FirstAndLast(t *testing.T) {
	for size := 1; size <= maxDefs; size++ {
		p := program(slices.Repeat([]api.Def{laid(0, num(1))}, size)...)
		for from := range size {
			for to := -3; to <= maxDefs+3; to++ {
				answers(t, withAt(p, from, laid(0, call(to))), to >= 0 && to < size)
			}
			for _, to := range []int{math.MinInt, math.MaxInt, 1 << 32, -1 << 32, 1<<32 + 1, 256, 1 << 16} {
				mayNot(t, withAt(p, from, laid(0, call(to))))
			}
		}
	}
}

// TestP6_1MainHasNoParams: with any, it may not be, whether or not it is called with as many Kids.
func TestP6_1MainHasNoParams(t *testing.T) {
	for _, params := range []int{-1, 0, 1, 2, 3, 4, math.MinInt, math.MaxInt, 1 << 32, 256, 1 << 16} {
		answers(t, program(laid(params, num(1))), params == 0)
		answers(t, program(laid(params, num(1)), laid(0, num(1))), params == 0)
		answers(t, program(laid(params, num(1)), laid(params&3, num(1))), params == 0)
	}
	for params := 1; params <= maxParams; params++ {
		mayNot(t, program(laid(params, call(0, ones(params)...))))
		mayNot(t, program(laid(params, variable(0)), laid(0, call(0, ones(params)...))))
		mayNot(t, program(laid(params, variable(0)), laid(0, call(0))))
		// The last one may have them.
		may(t, program(laid(0, num(1)), laid(params, variable(0))))
	}
}

// wrongDefs are definitions that may not be, each by one thing.
func wrongDefs() []api.Def {
	one := api.Expr{Kind: api.ExprNum, Num: 1}
	deep := num(1)
	for range maxLevels + 1 {
		deep = let(num(1), deep)
	}
	long := num(1)
	for range maxBody {
		long = con(1, long)
	}
	return []api.Def{
		{}, {Body: []api.Expr{}}, {Body: []api.Expr{one, one}}, {Body: []api.Expr{{Kind: api.ExprCon, Kids: []int{0}}}},
		laid(-1, num(1)), laid(4, num(1)), laid(0, deep), laid(0, long), laid(0, num(32768)), laid(0, num(-32769)),
		laid(0, variable(0)), laid(2, variable(2)), laid(1, variable(-1)), laid(0, con(100)), laid(0, con(1, ones(4)...)),
		laid(0, prims(5, num(1), num(1))), laid(0, prims(0, num(1))), laid(0, cases(1, 4, num(1), num(1), num(1))),
		laid(0, cases(1, 1, num(1), num(1), variable(0))), laid(0, let(num(1))), laid(0, let(variable(0), num(1))),
		{Body: []api.Expr{{Kind: -1}}}, {Body: []api.Expr{{Kind: 8}}}, {Body: []api.Expr{{Bind: 1}}},
		{Body: []api.Expr{{Kind: api.ExprError, Num: 1}}}, {Body: []api.Expr{{Kind: api.ExprCall, Bind: 1}}},
		{Body: []api.Expr{one, {Kind: api.ExprPrim, Kids: []int{0, 0}}}}, {Body: []api.Expr{one, {Kind: api.ExprPrim, Kids: []int{0, 2}}}},
	}
}

// TestP6_1WrongDefinition: one that may not be, at each place, called and not called.
func TestP6_1WrongDefinition(t *testing.T) {
	for _, wrong := range wrongDefs() {
		for size := 1; size <= maxDefs; size++ {
			p := program(slices.Repeat([]api.Def{laid(0, call(0))}, size)...)
			for at := range size {
				mayNot(t, withAt(p, at, wrong))
			}
		}
		kids := min(max(wrong.Params, 0), maxParams)
		mayNot(t, program(laid(0, call(1, ones(kids)...)), wrong))
		mayNot(t, program(laid(0, num(1)), wrong, laid(1, call(1, ones(kids)...))))
		mayNot(t, program(laid(0, num(1)), laid(1, call(2, ones(kids)...)), wrong))
	}
}

// TestP6_1OneWrongCall: among right ones, the first, the last, in the middle; one Kid too few, one too many, nobody there.
func TestP6_1OneWrongCall(t *testing.T) {
	right := []tree{call(1, num(1)), call(2, num(1), num(2)), call(0)}
	others := []api.Def{laid(1, num(1)), laid(2, num(1))}
	for at := range right {
		for _, wrong := range []tree{call(1), call(1, ones(2)...), call(2, ones(1)...), call(2, ones(3)...), call(0, num(1)), call(3), call(3, num(1)), call(7, ones(2)...)} {
			row := slices.Clone(right)
			row[at] = wrong
			mayNot(t, program(append([]api.Def{laid(0, con(1, row...))}, others...)...))
			mayNot(t, program(laid(0, con(1, right...)), laid(1, con(1, row...)), others[1]))
			mayNot(t, program(laid(0, con(1, right...)), others[0], laid(2, con(1, row...))))
			// Within a call that is right, and as one that has a right one within.
			mayNot(t, program(append([]api.Def{laid(0, call(1, wrong))}, others...)...))
		}
	}
	may(t, program(append([]api.Def{laid(0, con(1, right...))}, others...)...))
	mayNot(t, program(laid(0, call(1, call(1, num(1)), num(1))), others[0]))
	mayNot(t, program(laid(0, call(1, call(1, num(1), num(1)))), others[0]))
	// As many as the caller has Params, or as main has, is not enough.
	mayNot(t, program(laid(0, num(1)), laid(2, call(2, variable(0), variable(1))), laid(1, num(1))))
	mayNot(t, program(laid(0, call(1)), laid(1, num(1))))
	mayNot(t, program(laid(0, num(1)), laid(1, call(2, variable(0))), laid(0, num(1))))
}

// slow: what is asked of May, rule by rule; which definitions may be is layer 5's.
func slow(p api.Program) bool {
	size := len(p.Defs)
	if size == 0 || size > 8 {
		return false
	}
	params := make(map[int]int, size)
	for f, d := range p.Defs {
		if !expr.May(d) {
			return false
		}
		params[f] = d.Params
	}
	for _, d := range p.Defs {
		for _, e := range d.Body {
			if e.Kind != api.ExprCall {
				continue
			}
			if asked, there := params[e.Num]; !there || asked != len(e.Kids) {
				return false
			}
		}
	}
	return params[0] == 0
}

// agrees holds May against slow.
func agrees(t *testing.T, p api.Program) bool {
	t.Helper()
	want := slow(p)
	if got := May(p); got != want {
		t.Errorf("May(%.900s) = %v, want %v", told(p), got, want)
	}
	return want
}

// TestP6_1EachSmall: all programs of up to three definitions of a few, may be or not.
func TestP6_1EachSmall(t *testing.T) {
	bodies := []tree{num(1), variable(0), fail(), prims(0, num(1), call(1)), con(3, num(1))}
	for to := -1; to <= 3; to++ {
		for kids := range 3 {
			bodies = append(bodies, call(to, ones(kids)...))
		}
	}
	var defs []api.Def
	for params := -1; params <= 2; params++ {
		for _, b := range bodies {
			defs = append(defs, laid(params, b))
		}
	}
	count := [2]int{}
	see := func(p api.Program) {
		if agrees(t, p) {
			count[1]++
		} else {
			count[0]++
		}
	}
	for _, a := range defs {
		see(program(a))
		for _, b := range defs {
			see(program(a, b))
			for _, c := range defs {
				see(program(a, b, c))
			}
		}
	}
	if count[0] < 1000 || count[1] < 1000 {
		t.Errorf("%d may not be, %d may", count[0], count[1])
	}
}

// grown: a part by chance, in a program whose definitions have so many Params, with at most so much in it.
func grown(r *rand.Rand, params []int, levels, deep int) tree {
	kind := r.IntN(9)
	if deep == 0 {
		kind = []int{api.ExprNum, api.ExprVar, api.ExprError, api.ExprCon}[r.IntN(4)]
	}
	some := func(n int) []tree {
		var in []tree
		for range n {
			in = append(in, grown(r, params, levels, deep-1))
		}
		return in
	}
	switch {
	case kind == api.ExprVar && levels > 0:
		return variable(r.IntN(levels))
	case kind == api.ExprCall || kind == 8:
		f := r.IntN(len(params))
		return call(f, some(params[f])...)
	case kind == api.ExprCon:
		return con(r.IntN(100), some(min(deep, 1)*r.IntN(4))...)
	case kind == api.ExprPrim:
		return prims(r.IntN(5), some(2)...)
	case kind == api.ExprCase:
		bind := r.IntN(min(3, maxLevels-levels) + 1)
		in := some(3)
		in[1] = grown(r, params, levels+bind, deep-1)
		return cases(r.IntN(100), bind, in...)
	case kind == api.ExprLet && levels < maxLevels:
		in := some(2)
		in[1] = grown(r, params, levels+1, deep-1)
		return let(in...)
	case kind == api.ExprError:
		return fail()
	}
	return num(r.IntN(65536) - 32768)
}

// made: a program by chance that may be.
func made(r *rand.Rand) api.Program {
	params := []int{0}
	for range r.IntN(maxDefs) {
		params = append(params, r.IntN(maxParams+1))
	}
	var p api.Program
	for _, n := range params {
		d := laid(n, grown(r, params, n, 1+r.IntN(4)))
		for len(d.Body) > maxBody {
			d = laid(n, grown(r, params, n, 1+r.IntN(3)))
		}
		p.Defs = append(p.Defs, d)
	}
	return p
}

// changed: one thing else, by chance.
func changed(r *rand.Rand, p api.Program) api.Program {
	p = deepCopy(p)
	d := &p.Defs[r.IntN(len(p.Defs))]
	e := &d.Body[r.IntN(len(d.Body))]
	switch r.IntN(9) {
	case 0:
		e.Kind = r.IntN(10) - 1
	case 1:
		e.Num = r.IntN(maxDefs+2) - 1
	case 2:
		d.Params = r.IntN(5) - 1
	case 3:
		p.Defs = append(p.Defs, p.Defs[r.IntN(len(p.Defs))])
	case 4:
		p.Defs = p.Defs[:len(p.Defs)-1]
	case 5:
		p.Defs = p.Defs[1:]
	case 6:
		a, b := r.IntN(len(p.Defs)), r.IntN(len(p.Defs))
		p.Defs[a], p.Defs[b] = p.Defs[b], p.Defs[a]
	case 7:
		if len(e.Kids) > 0 {
			e.Kids = e.Kids[:len(e.Kids)-1]
		}
	default:
		// A whole part in front, so that a Kid more may be somebody's.
		if len(d.Body) < maxBody {
			d.Body = oneMoreKid(d.Body, r.IntN(len(d.Body)))
		}
	}
	return p
}

// oneMoreKid: the parts behind a new first one, which is a Kid more of the part that stood at.
func oneMoreKid(body []api.Expr, at int) []api.Expr {
	out := []api.Expr{{Kind: api.ExprNum, Num: 1}}
	for i, e := range body {
		var kids []int
		for _, k := range e.Kids {
			kids = append(kids, k+1)
		}
		if i == at {
			kids = append(kids, 0)
		}
		e.Kids = kids
		out = append(out, e)
	}
	return out
}

func TestP6_1ByChance(t *testing.T) {
	r := rand.New(rand.NewPCG(6, 1))
	count := [2]int{}
	for range 10000 {
		p := made(r)
		may(t, p)
		for range 8 {
			if agrees(t, changed(r, p)) {
				count[1]++
			} else {
				count[0]++
			}
		}
	}
	if count[0] < 1000 || count[1] < 1000 {
		t.Errorf("%d may not be, %d may", count[0], count[1])
	}
}

// TestP6_1Great: what is far too great is refused, and soon (R1).
func TestP6_1Great(t *testing.T) {
	const size = 1 << 20
	mayNot(t, api.Program{Defs: make([]api.Def, size)})
	mayNot(t, program(api.Def{Body: make([]api.Expr, size)}))
	calls := slices.Repeat([]api.Expr{{Kind: api.ExprCall, Num: 7}}, size)
	mayNot(t, program(laid(0, num(1)), api.Def{Body: calls}))
	mayNot(t, program(laid(0, call(1)), api.Def{Params: size, Body: calls}))
	for kind := -1; kind <= 8; kind++ {
		mayNot(t, program(laid(0, num(1)), api.Def{Body: []api.Expr{{Kind: kind, Kids: make([]int, size)}}}))
	}
	// As many Kids as Params, far beyond both limits.
	mayNot(t, program(api.Def{Body: []api.Expr{{Kind: api.ExprCall, Num: 1, Kids: make([]int, size)}}}, laid(size, num(1))))
}

// TestP6_1SpareRoom: what stands behind a list's end is neither read nor changed (R4).
func TestP6_1SpareRoom(t *testing.T) {
	defs := []api.Def{laid(0, call(1)), laid(0, num(1)), laid(0, call(2)), {Params: -1}, laid(7, call(9))}
	mayNot(t, api.Program{Defs: defs[:1]})
	may(t, api.Program{Defs: defs[:2]})
	may(t, api.Program{Defs: defs[:3]})
	mayNot(t, api.Program{Defs: defs[:4]})
	mayNot(t, api.Program{Defs: defs[:0]})
	may(t, api.Program{Defs: defs[1:2]})
	// A call that may not be, in the spare room of a body, and Kids in that of a call.
	body := []api.Expr{{Kind: api.ExprNum}, {Kind: api.ExprCall, Num: 5}}
	may(t, program(api.Def{Body: body[:1]}))
	kids := []int{0, 1, 2}
	may(t, program(api.Def{Body: []api.Expr{{}, {Kind: api.ExprCall, Num: 1, Kids: kids[:1]}}}, laid(1, num(1))))
	mayNot(t, program(api.Def{Body: []api.Expr{{}, {Kind: api.ExprCall, Num: 1, Kids: kids[:1]}}}, laid(3, num(1))))
	// Empty and nil are one.
	may(t, program(api.Def{Body: []api.Expr{{Kind: api.ExprCall, Kids: []int{}}}}))
	may(t, program(api.Def{Body: []api.Expr{{Kind: api.ExprCall, Kids: kids[:0]}}}))
	may(t, program(api.Def{Body: []api.Expr{{Kind: api.ExprCall, Kids: nil}}}))
	// Definitions whose parts share their memory may be as others.
	shared := laid(0, prims(0, call(1), call(2))).Body
	may(t, program(api.Def{Body: shared}, api.Def{Body: shared}, api.Def{Body: shared[:1]}))
	if !slices.Equal(kids, []int{0, 1, 2}) {
		t.Error("a list of Kids was changed")
	}
}

// read: a program out of any bytes, each one a small number.
func read(data []byte) api.Program {
	take := func() int {
		if len(data) == 0 {
			return 0
		}
		n := int(int8(data[0]))
		data = data[1:]
		return n
	}
	var p api.Program
	for len(data) > 0 {
		d := api.Def{Params: take()}
		for range min(max(take(), 0), maxBody+2) {
			e := api.Expr{Kind: take(), Num: take(), Bind: take()}
			for range min(max(take(), 0), 5) {
				e.Kids = append(e.Kids, take())
			}
			d.Body = append(d.Body, e)
		}
		p.Defs = append(p.Defs, d)
	}
	return p
}

// written: bytes of which read tells p, if its numbers are small.
func written(p api.Program) []byte {
	var data []byte
	for _, d := range p.Defs {
		data = append(data, byte(d.Params), byte(len(d.Body)))
		for _, e := range d.Body {
			data = append(data, byte(e.Kind), byte(e.Num), byte(e.Bind), byte(len(e.Kids)))
			for _, k := range e.Kids {
				data = append(data, byte(k))
			}
		}
	}
	return data
}

func FuzzP6_1(f *testing.F) {
	r := rand.New(rand.NewPCG(6, 2))
	for range 200 {
		p := made(r)
		f.Add(written(p))
		f.Add(written(changed(r, p)))
	}
	f.Fuzz(func(t *testing.T, data []byte) {
		p := read(data)
		answers(t, p, slow(p))
	})
}

// TestP6_1FromSeveralAtOnce: each of several goroutines gets what one alone gets, of one and the same program (R5).
func TestP6_1FromSeveralAtOnce(t *testing.T) {
	good := program(laid(0, call(1, num(1))), laid(1, call(2, variable(0), num(2))), laid(2, call(0)))
	bad := program(laid(0, call(1, num(1))), laid(1, call(2, variable(0), num(2))), laid(2, call(3)))
	for i := range 8 {
		t.Run(strconv.Itoa(i), func(t *testing.T) {
			t.Parallel()
			for range 200 {
				may(t, good)
				mayNot(t, bad)
			}
		})
	}
}
