package need

import (
	"slices"

	"sleuth/api"
	"sleuth/prim"
)

// run is whose definitions are called, how many steps may still be taken, and the calls in the row in which they were made.
type run struct {
	defs  []api.Def
	left  int
	calls []call
}

// call is what a node tells of: its arguments and its result may still come to more.
type call struct {
	fun, parent int
	args        []*cell
	result      *cell
}

// part is a part of a body, with what stands at its levels, and the node in whose call it stands.
type part struct {
	body   []api.Expr
	at     int
	levels []*cell
	node   int
}

// call makes a node; its result, not evaluated so far.
func (r *run) call(fun int, parent int, args ...*cell) *cell {
	body := r.defs[fun].Body
	result := &cell{from: part{body: body, at: len(body) - 1, levels: args, node: len(r.calls)}}
	r.calls = append(r.calls, call{fun: fun, parent: parent, args: args, result: result})
	return result
}

// kid: a part's Kid, with these more at the next levels.
func (p part) kid(i int, more ...*cell) part {
	return part{body: p.body, at: p.body[p.at].Kids[i], levels: slices.Concat(p.levels, more), node: p.node}
}

// put: a part's Kid, to be put at a level or to become a constructor's part. A variable is the very one that stands there, so that asking for it takes no step.
func (p part) put(i int) *cell {
	kid := p.kid(i)
	if x := kid.body[kid.at]; x.Kind == api.ExprVar {
		return kid.levels[x.Num]
	}
	return &cell{from: kid}
}

// puts: all Kids of a part, put so.
func (p part) puts() []*cell {
	var cells []*cell
	for i := range p.body[p.at].Kids {
		cells = append(cells, p.put(i))
	}
	return cells
}

// evaluate goes no deeper than there are steps left.
func (p part) evaluate(r *run) (value, api.Errno) {
	if r.left == 0 {
		return value{}, api.ErrNeedFuel
	}
	r.left--
	x := p.body[p.at]
	switch x.Kind {
	case api.ExprNum:
		return value{kind: api.TermNum, num: x.Num}, api.OK
	case api.ExprVar:
		return p.levels[x.Num].force(r)
	case api.ExprCall:
		return r.call(x.Num, p.node, p.puts()...).force(r)
	case api.ExprCon:
		return value{kind: api.TermCon, num: x.Num, parts: p.puts()}, api.OK
	case api.ExprPrim:
		return p.operate(r, x.Num)
	case api.ExprCase:
		return p.choose(r, x.Num, x.Bind)
	case api.ExprLet:
		return p.kid(1, p.put(0)).evaluate(r)
	}
	return value{kind: api.TermFail}, api.OK
}

// operate: what comes of both Kids by op; the first one that is no number ends it.
func (p part) operate(r *run, op int) (value, api.Errno) {
	var nums [2]int
	for i := range nums {
		v, e := p.kid(i).evaluate(r)
		if e != api.OK {
			return value{}, e
		}
		if v.kind != api.TermNum {
			return value{kind: api.TermFail}, api.OK
		}
		nums[i] = v.num
	}
	// Layer 6 let the Op and all numbers pass: Do takes them.
	num, _ := prim.Do(op, nums[0], nums[1])
	return value{kind: api.TermNum, num: num}, api.OK
}

// choose: what comes of the second Kid, if the first one is a constructor of that tag with so many parts; of the third one, if it is something else.
func (p part) choose(r *run, tag int, bind int) (value, api.Errno) {
	v, e := p.kid(0).evaluate(r)
	if e != api.OK || v.kind == api.TermFail {
		return v, e
	}
	if v.kind == api.TermCon && v.num == tag && len(v.parts) == bind {
		return p.kid(1, v.parts...).evaluate(r)
	}
	return p.kid(2).evaluate(r)
}
