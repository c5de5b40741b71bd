package need

import (
	"sleuth/api"
	"sleuth/term"
)

// value is what came of an evaluation: one of the Terms, its number or tag, its parts. A hole is what came of none.
type value struct {
	kind, num int
	parts     []*cell
}

// cell is what stands at a level, is a constructor's part or a call's result: it is evaluated once, and then is what came of it.
type cell struct {
	value
	from part
	// shown: all of it was evaluated, and nothing in it failed.
	shown bool
	// text is its term, if that was asked for.
	text string
}

// force evaluates a cell, if it was not; a failure is kept, too.
func (c *cell) force(r *run) (value, api.Errno) {
	if c.kind == api.TermHole {
		v, e := c.from.evaluate(r)
		if e != api.OK {
			return value{}, e
		}
		c.value = v
	}
	return c.value, api.OK
}

// show evaluates a cell wholly; false, if something in it fails, or the fuel runs out: then nothing more is to be evaluated.
func (c *cell) show(r *run) (bool, api.Errno) {
	// What shares its parts again and again has more of them than could be gone through.
	if c.shown {
		return true, api.OK
	}
	v, e := c.force(r)
	if e != api.OK || v.kind == api.TermFail {
		return false, e
	}
	for _, part := range c.parts {
		if whole, e := part.show(r); !whole {
			return false, e
		}
	}
	c.shown = true
	return true, api.OK
}

// term: a cell's text; ErrNeedLong, if it is too long. It is kept, so that it may be asked only when nothing is evaluated any more.
func (c *cell) term() (string, api.Errno) {
	if c.text != "" {
		return c.text, api.OK
	}
	parts, e := terms(c.parts)
	if e != api.OK {
		return "", e
	}
	// Its kind, its number and how many parts it has come from a program that may be: what Make refuses is too long.
	s, e := term.Make(c.kind, c.num, parts)
	if e != api.OK {
		return "", api.ErrNeedLong
	}
	c.text = s
	return s, api.OK
}

// terms: of each cell its text; ErrNeedLong, if one is too long.
func terms(cells []*cell) ([]string, api.Errno) {
	var texts []string
	for _, c := range cells {
		s, e := c.term()
		if e != api.OK {
			return nil, e
		}
		texts = append(texts, s)
	}
	return texts, api.OK
}
