// Package byname evaluates by name, as chapter 9 tells it, for the layers that ask what is meant.
package byname

import (
	"slices"

	"sleuth/api"
	"sleuth/prim"
	"sleuth/program"
	"sleuth/term"
)

// Run is whose definitions are called, and how many steps may still be taken: those of all that is evaluated in one Run count together.
type Run struct {
	defs []api.Def
	left int
}

// Value is what came of an evaluation: one of the Terms but a hole, its number or tag, its parts, not evaluated so far.
type Value struct {
	Kind, Num int
	Parts     []Thing
}

// Thing is what may stand at a level. It keeps nothing of what came of it: by name, it is evaluated anew whenever it is needed.
type Thing interface {
	// Evaluate: what comes of it; ErrNameFuel, if it runs out; ErrNameHole, if a hole is touched.
	Evaluate(r *Run) (Value, api.Errno)
}

// given is a term that was handed in.
type given string

// part is a part of a body, with what stands at its levels.
type part struct {
	body   []api.Expr
	at     int
	levels []Thing
}

// Call: a call of fun with args, not evaluated so far, and the Run that it is to be evaluated in; false, if layer 9 refuses one of these.
func Call(p api.Program, fun int, args []string, fuel int) (Thing, *Run, bool) {
	if !mayBeAsked(p, fun, args, fuel) {
		return nil, nil, false
	}
	r := &Run{defs: p.Defs, left: fuel}
	return r.bodyOf(fun, givens(args)), r, true
}

// mayBeAsked: does layer 9 take these? Which programs may be goes first: it lets fun's Params be looked at.
func mayBeAsked(p api.Program, fun int, args []string, fuel int) bool {
	mayNot := func(arg string) bool { return !term.May(arg) }
	return program.May(p) &&
		0 <= fun && fun < len(p.Defs) &&
		len(args) == p.Defs[fun].Params &&
		!slices.ContainsFunc(args, mayNot) &&
		0 <= fuel && fuel <= api.MaxFuel
}

// givens: terms as what stands at levels.
func givens(terms []string) []Thing {
	var things []Thing
	for _, s := range terms {
		things = append(things, given(s))
	}
	return things
}

// bodyOf: the whole body of a definition, with these at its levels.
func (r *Run) bodyOf(fun int, levels []Thing) part {
	body := r.defs[fun].Body
	return part{body: body, at: len(body) - 1, levels: levels}
}

// kid: a part's Kid, with these more at the next levels.
func (p part) kid(i int, more ...Thing) part {
	return part{body: p.body, at: p.body[p.at].Kids[i], levels: slices.Concat(p.levels, more)}
}

// kids: all Kids of a part.
func (p part) kids() []Thing {
	var kids []Thing
	for i := range p.body[p.at].Kids {
		kids = append(kids, p.kid(i))
	}
	return kids
}

// Evaluate takes no step: a term is no part of a body.
func (g given) Evaluate(*Run) (Value, api.Errno) {
	// Call lets no text pass that is no term, and the parts of one are some: Cut takes it.
	kind, num, kids, _ := term.Cut(string(g))
	if kind == api.TermHole {
		return Value{}, api.ErrNameHole
	}
	return Value{Kind: kind, Num: num, Parts: givens(kids)}, api.OK
}

// Evaluate goes no deeper than there are steps left.
func (p part) Evaluate(r *Run) (Value, api.Errno) {
	if r.left == 0 {
		return Value{}, api.ErrNameFuel
	}
	r.left--
	x := p.body[p.at]
	switch x.Kind {
	case api.ExprNum:
		return Value{Kind: api.TermNum, Num: x.Num}, api.OK
	case api.ExprVar:
		return p.levels[x.Num].Evaluate(r)
	case api.ExprCall:
		return r.bodyOf(x.Num, p.kids()).Evaluate(r)
	case api.ExprCon:
		return Value{Kind: api.TermCon, Num: x.Num, Parts: p.kids()}, api.OK
	case api.ExprPrim:
		return p.operate(r, x.Num)
	case api.ExprCase:
		return p.choose(r, x.Num, x.Bind)
	case api.ExprLet:
		return p.kid(1, p.kid(0)).Evaluate(r)
	}
	return Value{Kind: api.TermFail}, api.OK
}

// operate: what comes of both Kids by op; the first one that is no number ends it.
func (p part) operate(r *Run, op int) (Value, api.Errno) {
	var nums [2]int
	for i := range nums {
		v, e := p.kid(i).Evaluate(r)
		if e != api.OK {
			return Value{}, e
		}
		if v.Kind != api.TermNum {
			return Value{Kind: api.TermFail}, api.OK
		}
		nums[i] = v.Num
	}
	// Layer 6 let the Op pass, and all numbers come from layers 1, 2 and 6: Do takes them.
	num, _ := prim.Do(op, nums[0], nums[1])
	return Value{Kind: api.TermNum, Num: num}, api.OK
}

// choose: what comes of the second Kid, if the first one is a constructor of that tag with so many parts; of the third one, if it is something else.
func (p part) choose(r *Run, tag int, bind int) (Value, api.Errno) {
	v, e := p.kid(0).Evaluate(r)
	if e != api.OK || v.Kind == api.TermFail {
		return v, e
	}
	if v.Kind == api.TermCon && v.Num == tag && len(v.Parts) == bind {
		return p.kid(1, v.Parts...).Evaluate(r)
	}
	return p.kid(2).Evaluate(r)
}
