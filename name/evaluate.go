package name

import (
	"slices"

	"sleuth/api"
	"sleuth/prim"
	"sleuth/term"
)

// run is an evaluation: whose definitions are called, and how many steps may still be taken.
type run struct {
	defs []api.Def
	left int
}

// value is what came of an evaluation: one of the Terms but a hole, its number or tag, its parts, not evaluated so far.
type value struct {
	kind, num int
	parts     []thing
}

// thing is what may stand at a level. It keeps nothing of what came of it: by name, it is evaluated anew whenever it is needed.
type thing interface {
	// evaluate: what comes of it; ErrNameFuel, if it runs out; ErrNameHole, if a hole is touched.
	evaluate(r *run) (value, api.Errno)
}

// given is a term that was handed in.
type given string

// part is a part of a body, with what stands at its levels.
type part struct {
	body   []api.Expr
	at     int
	levels []thing
}

// givens: terms as what stands at levels.
func givens(terms []string) []thing {
	var things []thing
	for _, s := range terms {
		things = append(things, given(s))
	}
	return things
}

// bodyOf: the whole body of a definition, with these at its levels.
func (r *run) bodyOf(fun int, levels []thing) part {
	body := r.defs[fun].Body
	return part{body: body, at: len(body) - 1, levels: levels}
}

// kid: a part's Kid, with these more at the next levels.
func (p part) kid(i int, more ...thing) part {
	return part{body: p.body, at: p.body[p.at].Kids[i], levels: slices.Concat(p.levels, more)}
}

// kids: all Kids of a part.
func (p part) kids() []thing {
	var kids []thing
	for i := range p.body[p.at].Kids {
		kids = append(kids, p.kid(i))
	}
	return kids
}

// evaluate takes no step: a term is no part of a body.
func (g given) evaluate(*run) (value, api.Errno) {
	// Head lets no text pass that is no term, and the parts of one are some: Cut takes it.
	kind, num, kids, _ := term.Cut(string(g))
	if kind == api.TermHole {
		return value{}, api.ErrNameHole
	}
	return value{kind: kind, num: num, parts: givens(kids)}, api.OK
}

// evaluate goes no deeper than there are steps left.
func (p part) evaluate(r *run) (value, api.Errno) {
	if r.left == 0 {
		return value{}, api.ErrNameFuel
	}
	r.left--
	x := p.body[p.at]
	switch x.Kind {
	case api.ExprNum:
		return value{kind: api.TermNum, num: x.Num}, api.OK
	case api.ExprVar:
		return p.levels[x.Num].evaluate(r)
	case api.ExprCall:
		return r.bodyOf(x.Num, p.kids()).evaluate(r)
	case api.ExprCon:
		return value{kind: api.TermCon, num: x.Num, parts: p.kids()}, api.OK
	case api.ExprPrim:
		return p.operate(r, x.Num)
	case api.ExprCase:
		return p.choose(r, x.Num, x.Bind)
	case api.ExprLet:
		return p.kid(1, p.kid(0)).evaluate(r)
	}
	return value{kind: api.TermFail}, api.OK
}

// operate: what comes of both Kids by op; the first one that is no number ends it.
func (p part) operate(r *run, op int) (value, api.Errno) {
	var nums [2]int
	for i := range nums {
		v, e := p.kid(i).evaluate(r)
		if e != api.OK {
			return value{}, e
		}
		if v.kind != api.TermNum {
			return value{kind: api.TermFail}, api.OK
		}
		nums[i] = v.num
	}
	// Layer 6 let the Op pass, and all numbers come from layers 1, 2 and 6: Do takes them.
	num, _ := prim.Do(op, nums[0], nums[1])
	return value{kind: api.TermNum, num: num}, api.OK
}

// choose: what comes of the second Kid, if the first one is a constructor of that tag with so many parts; of the third one, if it is something else.
func (p part) choose(r *run, tag int, bind int) (value, api.Errno) {
	v, e := p.kid(0).evaluate(r)
	if e != api.OK || v.kind == api.TermFail {
		return v, e
	}
	if v.kind == api.TermCon && v.num == tag && len(v.parts) == bind {
		return p.kid(1, v.parts...).evaluate(r)
	}
	return p.kid(2).evaluate(r)
}
