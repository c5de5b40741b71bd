package show

import (
	"math"
	"math/rand/v2"
	"regexp"
	"slices"
	"strconv"
	"strings"
	"testing"

	"sleuth/api"
	"sleuth/parse"
	"sleuth/program"
)

// The limits as the document tells them, so that the tests do not lean on what the package leans on.
const (
	maxNum    = 32767
	maxTag    = 99
	maxKids   = 3
	maxSource = 2048
	maxDefs   = 8
	maxParams = 3
	maxBody   = 24
	maxLevels = 8
)

// part: short for a part of a body.
func part(kind, num, bind int, kids ...int) api.Expr {
	return api.Expr{Kind: kind, Num: num, Bind: bind, Kids: kids}
}

func num(n int) api.Expr                    { return part(api.ExprNum, n, 0) }
func variable(n int) api.Expr               { return part(api.ExprVar, n, 0) }
func call(f int, kids ...int) api.Expr      { return part(api.ExprCall, f, 0, kids...) }
func con(tag int, kids ...int) api.Expr     { return part(api.ExprCon, tag, 0, kids...) }
func prims(op int, kids ...int) api.Expr    { return part(api.ExprPrim, op, 0, kids...) }
func cases(tag, bind, a, b, c int) api.Expr { return part(api.ExprCase, tag, bind, a, b, c) }
func let(a, b int) api.Expr                 { return part(api.ExprLet, 0, 0, a, b) }
func fail() api.Expr                        { return part(api.ExprError, 0, 0) }
func def(params int, b ...api.Expr) api.Def { return api.Def{Params: params, Body: b} }
func programOf(defs ...api.Def) api.Program { return api.Program{Defs: defs} }
func mainOf(body ...api.Expr) api.Program   { return programOf(def(0, body...)) }
func inMain(s string) string                { return "(def 0 " + s + ")\n" }

// told: all that a program holds, each list's length and its spare room too.
func told(p api.Program) string {
	s := []byte(strconv.Itoa(len(p.Defs)) + " definitions:")
	put := func(before string, n int) {
		s = strconv.AppendInt(append(s, before...), int64(n), 10)
	}
	for _, d := range p.Defs[:cap(p.Defs)] {
		put("\n", d.Params)
		put(" of ", len(d.Body))
		for _, e := range d.Body[:cap(d.Body)] {
			put(" [", e.Kind)
			put(" ", e.Num)
			put(" ", e.Bind)
			put(" of ", len(e.Kids))
			for _, k := range e.Kids[:cap(e.Kids)] {
				put(" ", k)
			}
			s = append(s, ']')
		}
	}
	return string(s)
}

// answers: Text(p) is that, twice, and p stays as it is (R4, R5).
func answers(t *testing.T, p api.Program, want string, wantErr api.Errno) {
	t.Helper()
	before := told(p)
	for range 2 {
		if got, e := Text(p); got != want || e != wantErr {
			t.Errorf("Text(%.900s) = %q, %d, want %q, %d", before, got, e, want, wantErr)
		}
	}
	if after := told(p); after != before {
		t.Errorf("Text changed %.900s to %.900s", before, after)
	}
}

// gives: Text(p) is just that, and no error beside it; so is that of the program that Parse makes of it (P8.2).
func gives(t *testing.T, p api.Program, want string) {
	t.Helper()
	answers(t, p, want, api.OK)
	again, e := parse.Parse(want)
	if e != api.OK {
		t.Errorf("Parse(%q) = %d", want, e)
	}
	answers(t, again, want, api.OK)
}

// refused: ErrShowForm, and the empty text beside it (R2).
func refused(t *testing.T, p api.Program) {
	t.Helper()
	answers(t, p, "", api.ErrShowForm)
}

// parsed: the program of a text that is one.
func parsed(t *testing.T, s string) api.Program {
	t.Helper()
	p, e := parse.Parse(s)
	if e != api.OK {
		t.Fatalf("Parse(%.900q) = %d", s, e)
	}
	return p
}

// comesBack: a text is just the one of the program that Parse makes of it.
func comesBack(t *testing.T, s string) {
	t.Helper()
	answers(t, parsed(t, s), s, api.OK)
}

func TestP8_1EachRow(t *testing.T) {
	for _, c := range []struct {
		text string
		body []api.Expr
	}{
		{"7", []api.Expr{num(7)}},
		{"0", []api.Expr{num(0)}},
		{"-1", []api.Expr{num(-1)}},
		{"-300", []api.Expr{num(-300)}},
		{"(f0)", []api.Expr{call(0)}},
		{"@0", []api.Expr{con(0)}},
		{"@12", []api.Expr{con(12)}},
		{"(@0 1)", []api.Expr{num(1), con(0, 0)}},
		{"(@12 1 2)", []api.Expr{num(1), num(2), con(12, 0, 1)}},
		{"(@3 1 2 3)", []api.Expr{num(1), num(2), num(3), con(3, 0, 1, 2)}},
		{"(+ 1 2)", []api.Expr{num(1), num(2), prims(api.OpAdd, 0, 1)}},
		{"(- 1 2)", []api.Expr{num(1), num(2), prims(api.OpSub, 0, 1)}},
		{"(* 1 2)", []api.Expr{num(1), num(2), prims(api.OpMul, 0, 1)}},
		{"(= 1 2)", []api.Expr{num(1), num(2), prims(api.OpEq, 0, 1)}},
		{"(< 1 2)", []api.Expr{num(1), num(2), prims(api.OpLess, 0, 1)}},
		{"(- -1 -2)", []api.Expr{num(-1), num(-2), prims(api.OpSub, 0, 1)}},
		{"(case 1 @5 0 2 3)", []api.Expr{num(1), num(2), num(3), cases(5, 0, 0, 1, 2)}},
		{"(case @5 @6 3 $2 4)", []api.Expr{con(5), variable(2), num(4), cases(6, 3, 0, 1, 2)}},
		{"(let 1 2)", []api.Expr{num(1), num(2), let(0, 1)}},
		{"(let 1 $0)", []api.Expr{num(1), variable(0), let(0, 1)}},
		{"error", []api.Expr{fail()}},
	} {
		gives(t, mainOf(c.body...), inMain(c.text))
		gives(t, programOf(def(0, num(1)), def(3, c.body...)), "(def 0 1)\n(def 3 "+c.text+")\n")
	}
	gives(t, programOf(def(0, num(1)), def(3, variable(0), variable(1), variable(2), con(1, 0, 1, 2))), "(def 0 1)\n(def 3 (@1 $0 $1 $2))\n")
	gives(t, programOf(def(0, num(5), call(1, 0)), def(1, variable(0))), "(def 0 (f1 5))\n(def 1 $0)\n")
	gives(t, programOf(def(0, num(5), num(6), call(1, 0, 1)), def(2, variable(1))), "(def 0 (f1 5 6))\n(def 2 $1)\n")
	gives(t, programOf(def(0, num(5), num(6), num(7), call(1, 0, 1, 2)), def(3, variable(2))), "(def 0 (f1 5 6 7))\n(def 3 $2)\n")
}

func TestP8_1PartsInParts(t *testing.T) {
	gives(t, mainOf(num(1), num(2), prims(api.OpMul, 0, 1), num(3), num(4), prims(api.OpAdd, 3, 4), prims(api.OpSub, 2, 5)), inMain("(- (* 1 2) (+ 3 4))"))
	gives(t, mainOf(num(1), num(2), con(2, 0, 1), con(3), num(3), con(5, 4), con(4, 5), con(1, 2, 3, 6)), inMain("(@1 (@2 1 2) @3 (@4 (@5 3)))"))
	gives(t, mainOf(num(1), num(2), con(1, 0, 1), variable(0), variable(1), prims(0, 3, 4), num(3), variable(0), let(6, 7), cases(1, 2, 2, 5, 8)), inMain("(case (@1 1 2) @1 2 (+ $0 $1) (let 3 $0))"))
	gives(t, mainOf(
		num(1), num(3), num(4), cases(2, 0, 0, 1, 2),
		variable(0), num(7), num(8), cases(6, 0, 4, 5, 6),
		num(9), variable(2), num(12), cases(10, 3, 8, 9, 10),
		cases(5, 1, 3, 7, 11)), inMain("(case (case 1 @2 0 3 4) @5 1 (case $0 @6 0 7 8) (case 9 @10 3 $2 12))"))
	gives(t, mainOf(num(1), variable(0), let(0, 1), variable(0), variable(0), variable(1), prims(3, 4, 5), let(3, 6), let(2, 7)), inMain("(let (let 1 $0) (let $0 (= $0 $1)))"))
	gives(t, programOf(def(0, num(1), fail(), call(1, 0, 1), call(0), con(7), call(1, 3, 4), call(1, 2, 5)), def(2, variable(0))), "(def 0 (f1 (f1 1 error) (f1 (f0) @7)))\n(def 2 $0)\n")
	gives(t, mainOf(call(0), con(1, 0), con(2, 1), con(3, 2)), inMain("(@3 (@2 (@1 (f0))))"))
	gives(t, mainOf(call(0), call(0), call(0), cases(1, 0, 0, 1, 2)), inMain("(case (f0) @1 0 (f0) (f0))"))
}

// TestP8_1Several: each definition is a line, the last one too.
func TestP8_1Several(t *testing.T) {
	gives(t, programOf(
		def(0, num(1), num(5), call(2, 0, 1), call(1, 2)),
		def(1, variable(0), variable(1), variable(2), call(1, 2), prims(api.OpAdd, 1, 3), num(0), cases(1, 2, 0, 4, 5)),
		def(2, variable(0), variable(1), prims(api.OpLess, 0, 1), variable(0), variable(0), num(1), prims(api.OpAdd, 4, 5), variable(1), call(2, 6, 7), con(1, 3, 8), con(0), cases(1, 0, 2, 9, 10))), `(def 0 (f1 (f2 1 5)))
(def 1 (case $0 @1 2 (+ $1 (f1 $2)) 0))
(def 2 (case (< $0 $1) @1 0 (@1 $0 (f2 (+ $0 1) $1)) @0))
`)
	gives(t, programOf(def(0, call(0)), def(0, call(1)), def(0, call(0))), "(def 0 (f0))\n(def 0 (f1))\n(def 0 (f0))\n")
	gives(t, programOf(def(0, num(1)), def(3, variable(2)), def(1, variable(0)), def(2, fail())), "(def 0 1)\n(def 3 $2)\n(def 1 $0)\n(def 2 error)\n")
	for size := 1; size <= maxDefs; size++ {
		gives(t, programOf(slices.Repeat([]api.Def{def(0, num(1))}, size)...), strings.Repeat("(def 0 1)\n", size))
		gives(t, programOf(append(slices.Repeat([]api.Def{def(0, num(1))}, size-1), def(0, num(size)))...), strings.Repeat("(def 0 1)\n", size-1)+inMain(strconv.Itoa(size)))
	}
}

// TestP8_1OtherRows: wherever the parts stand, the text tells what the body is.
func TestP8_1OtherRows(t *testing.T) {
	const text = "(- (* 1 2) (+ 3 4))"
	gives(t, mainOf(num(1), num(2), num(3), num(4), prims(api.OpMul, 0, 1), prims(api.OpAdd, 2, 3), prims(api.OpSub, 4, 5)), inMain(text))
	gives(t, mainOf(num(4), num(3), num(2), num(1), prims(api.OpAdd, 1, 0), prims(api.OpMul, 3, 2), prims(api.OpSub, 5, 4)), inMain(text))
	gives(t, mainOf(num(2), num(1), prims(api.OpSub, 1, 0)), inMain("(- 1 2)"))
	gives(t, mainOf(num(2), num(1), let(1, 0)), inMain("(let 1 2)"))
	gives(t, mainOf(num(3), num(1), num(2), con(9, 1, 2, 0)), inMain("(@9 1 2 3)"))
	gives(t, mainOf(num(3), variable(0), num(1), cases(9, 1, 2, 1, 0)), inMain("(case 1 @9 1 $0 3)"))
	gives(t, programOf(def(0, num(3), num(1), num(2), call(1, 1, 2, 0)), def(3, num(0))), "(def 0 (f1 1 2 3))\n(def 3 0)\n")
}

// moved: the parts in another row; the part that stood at i goes to row[i].
func moved(d api.Def, row []int) api.Def {
	body := make([]api.Expr, len(d.Body))
	for i, e := range d.Body {
		var kids []int
		for _, k := range e.Kids {
			kids = append(kids, row[k])
		}
		e.Kids = kids
		body[row[i]] = e
	}
	return api.Def{Params: d.Params, Body: body}
}

// rows goes through all rows in which each of a body's parts stands behind its Kids.
func rows(body []api.Expr, do func(row []int)) {
	row := slices.Repeat([]int{-1}, len(body))
	var more func(next int)
	more = func(next int) {
		if next == len(body) {
			do(row)
			return
		}
		for at, e := range body {
			if row[at] < 0 && !slices.ContainsFunc(e.Kids, func(k int) bool { return row[k] < 0 }) {
				row[at] = next
				more(next + 1)
				row[at] = -1
			}
		}
	}
	more(0)
}

// TestP8_1EachOtherRow: programs that differ in the row of their parts alone have the same text.
func TestP8_1EachOtherRow(t *testing.T) {
	for _, s := range []string{
		"(- (* 1 2) (+ 3 4))", "(@1 (@2 1 2) @3 (@4 5))", "(let (@1 1) (case $0 @1 2 (+ $1 $2) 0))", "(case (f0) @7 3 (@1 $0 $2) (let 1 $0))",
		"(@1 (@2 (@3 (@4 (@5 @6)))))", "(@1 (@1 1 1) (@1 1 1))", "(< error (= (f0) -1))",
	} {
		p := parsed(t, inMain(s))
		found := 0
		rows(p.Defs[0].Body, func(row []int) {
			found++
			gives(t, programOf(moved(p.Defs[0], row)), inMain(s))
			gives(t, programOf(def(0, num(1)), moved(p.Defs[0], row)), "(def 0 1)\n"+inMain(s))
		})
		if found < 1 || found == 1 && !strings.Contains(s, "@6") {
			t.Errorf("%q has %d rows", s, found)
		}
	}
}

// TestP8_1RowsInRows: each row of chapter 7's table as each Kid of each row, and that once more.
func TestP8_1RowsInRows(t *testing.T) {
	table := []string{"7", "-3", "$0", "(f0)", "(f1 ?)", "(f2 ? ?)", "(f3 ? ? ?)", "@4", "(@5 ?)", "(@6 ? ?)", "(@7 ? ? ?)", "(+ ? ?)", "(- ? ?)", "(* ? ?)", "(= ? ?)", "(< ? ?)", "(case ? @8 0 ? ?)", "(case ? @9 2 ? ?)", "(let ? ?)", "error"}
	const rest = "(def 1 $0)\n(def 2 $1)\n(def 3 $2)\n"
	fill := func(row string, at int, s string) string {
		left := -1
		for range at + 1 {
			left += 1 + strings.Index(row[left+1:], "?")
		}
		return strings.ReplaceAll(row[:left], "?", "1") + s + strings.ReplaceAll(row[left+1:], "?", "2")
	}
	for _, a := range table {
		for i := range strings.Count(a, "?") {
			for _, b := range table {
				if strings.Count(b, "?") == 0 {
					comesBack(t, inMain("(let 0 "+fill(a, i, b)+")")+rest)
				}
				for j := range strings.Count(b, "?") {
					for _, c := range table {
						in := fill(b, j, strings.ReplaceAll(c, "?", "3"))
						comesBack(t, inMain("(let 0 "+fill(a, i, in)+")")+rest)
					}
				}
			}
		}
	}
}

func TestP8_1Numbers(t *testing.T) {
	for n := -maxNum - 1; n <= maxNum; n++ {
		want := inMain("(@1 " + strconv.Itoa(n) + ")")
		if got, e := Text(mainOf(num(n), con(1, 0))); got != want || e != api.OK {
			t.Errorf("%d: %q, %d", n, got, e)
		}
	}
	for _, n := range []int{-maxNum - 1, -maxNum, -10, -9, -1, 0, 1, 9, 10, 99, 100, maxNum - 1, maxNum} {
		gives(t, mainOf(num(n)), inMain(strconv.Itoa(n)))
	}
	for _, n := range []int{-maxNum - 2, maxNum + 1, 1 << 16, -1 << 16, 1 << 32, -1 << 32, 1<<32 + 1, math.MinInt, math.MaxInt} {
		refused(t, mainOf(num(n)))
		refused(t, mainOf(num(n), con(1, 0)))
	}
}

func TestP8_1Tags(t *testing.T) {
	for tag := range maxTag + 1 {
		s := "@" + strconv.Itoa(tag)
		gives(t, mainOf(con(tag)), inMain(s))
		gives(t, mainOf(num(1), con(tag, 0)), inMain("("+s+" 1)"))
		gives(t, mainOf(num(1), num(2), num(3), cases(tag, 0, 0, 1, 2)), inMain("(case 1 "+s+" 0 2 3)"))
	}
	for _, tag := range []int{-1, maxTag + 1, maxTag + 2, 256, 1 << 32, math.MinInt, math.MaxInt} {
		refused(t, mainOf(con(tag)))
		refused(t, mainOf(num(1), con(tag, 0)))
		refused(t, mainOf(num(1), num(2), num(3), cases(tag, 0, 0, 1, 2)))
	}
}

// inLets: a variable within so many lets, and its text.
func inLets(lets, level int) ([]api.Expr, string) {
	body := []api.Expr{variable(level)}
	for range lets {
		inner := len(body) - 1
		body = append(body, num(1), let(inner+1, inner))
	}
	return body, strings.Repeat("(let 1 ", lets) + "$" + strconv.Itoa(level) + strings.Repeat(")", lets)
}

func TestP8_1Levels(t *testing.T) {
	for params := range maxParams + 1 {
		for lets := range maxLevels - params + 2 {
			for level := -1; level <= maxLevels+1; level++ {
				body, text := inLets(lets, level)
				p := programOf(def(0, num(1)), def(params, body...))
				if params+lets <= maxLevels && level >= 0 && level < params+lets {
					gives(t, p, "(def 0 1)\n(def "+strconv.Itoa(params)+" "+text+")\n")
				} else {
					refused(t, p)
				}
			}
		}
	}
	gives(t, mainOf(num(1), num(2), num(3), variable(7), num(4), cases(1, 2, 2, 3, 4), num(5), cases(1, 3, 1, 5, 6), num(6), cases(1, 3, 0, 7, 8)), inMain("(case 1 @1 3 (case 2 @1 3 (case 3 @1 2 $7 4) 5) 6)"))
}

// TestP8_1Calls: of each definition with each number of parameters, and of none that is not there.
func TestP8_1Calls(t *testing.T) {
	for f := 1; f < maxDefs; f++ {
		for params := range maxParams + 1 {
			p := programOf(slices.Repeat([]api.Def{def(0, num(1))}, f)...)
			p.Defs = append(p.Defs, def(params, num(2)))
			for kids := range maxParams + 2 {
				own := programOf(slices.Clone(p.Defs)...)
				row := []int{0, 1, 2, 3}[:kids]
				own.Defs[0].Body = append([]api.Expr{num(5), num(6), num(7), num(8)}[:kids:kids], call(f, row...))
				if kids != params {
					refused(t, own)
					continue
				}
				gives(t, own, inMain("(f"+strconv.Itoa(f)+" 5 6 7"[:2*kids]+")")+strings.Repeat("(def 0 1)\n", f-1)+"(def "+strconv.Itoa(params)+" 2)\n")
			}
			for _, wrong := range []int{-1, f + 1, maxDefs, math.MinInt, math.MaxInt, 1 << 32} {
				refused(t, programOf(append([]api.Def{def(0, call(wrong))}, p.Defs[1:]...)...))
			}
		}
	}
}

// TestP8_1HowManyKids: of each kind, as many as it has, one less and one more.
func TestP8_1HowManyKids(t *testing.T) {
	for kids := range 6 {
		body := slices.Repeat([]api.Expr{num(1)}, kids)
		row := []int{0, 1, 2, 3, 4, 5}[:kids]
		with := func(kind, num, bind int) api.Program {
			return mainOf(append(slices.Clone(body), part(kind, num, bind, row...))...)
		}
		text := strings.Repeat(" 1", kids)
		if kids == 0 {
			gives(t, with(api.ExprNum, 1, 0), inMain("1"))
			gives(t, with(api.ExprError, 0, 0), inMain("error"))
			gives(t, with(api.ExprCall, 0, 0), inMain("(f0)"))
			gives(t, with(api.ExprCon, 4, 0), inMain("@4"))
		} else {
			refused(t, with(api.ExprNum, 1, 0))
			refused(t, with(api.ExprError, 0, 0))
			refused(t, with(api.ExprCall, 0, 0))
		}
		if kids > 0 && kids <= maxKids {
			gives(t, with(api.ExprCon, 4, 0), inMain("(@4"+text+")"))
		} else if kids > 0 {
			refused(t, with(api.ExprCon, 4, 0))
		}
		if kids == 2 {
			gives(t, with(api.ExprLet, 0, 0), inMain("(let 1 1)"))
		} else {
			refused(t, with(api.ExprLet, 0, 0))
		}
		for op, sign := range "+-*=<" {
			if kids == 2 {
				gives(t, with(api.ExprPrim, op, 0), inMain("("+string(sign)+" 1 1)"))
			} else {
				refused(t, with(api.ExprPrim, op, 0))
			}
		}
		for bind := range maxKids + 1 {
			if kids == 3 {
				gives(t, with(api.ExprCase, 4, bind), inMain("(case 1 @4 "+strconv.Itoa(bind)+" 1 1)"))
			} else {
				refused(t, with(api.ExprCase, 4, bind))
			}
		}
	}
}

// chain: a body of so many parts, each within the next one, and its text.
func chain(size int) ([]api.Expr, string) {
	body := []api.Expr{num(7)}
	var text strings.Builder
	for at := 1; at < size; at++ {
		body = append(body, con(at, at-1))
		text.WriteString("(@" + strconv.Itoa(size-at) + " ")
	}
	return body, text.String() + "7" + strings.Repeat(")", size-1)
}

func TestP8_1Sizes(t *testing.T) {
	for size := 1; size <= maxBody; size++ {
		body, text := chain(size)
		gives(t, mainOf(body...), inMain(text))
	}
	body, text := chain(maxBody)
	gives(t, programOf(slices.Repeat([]api.Def{def(0, body...)}, maxDefs)...), strings.Repeat(inMain(text), maxDefs))
	body, _ = chain(maxBody + 1)
	refused(t, mainOf(body...))
	refused(t, programOf(def(0, num(1)), def(0, body...)))
	refused(t, mainOf())
	refused(t, programOf())
	for size := maxDefs + 1; size < 3*maxDefs; size++ {
		refused(t, programOf(slices.Repeat([]api.Def{def(0, num(1))}, size)...))
	}
	for params := -1; params <= maxParams+1; params++ {
		if params >= 0 && params <= maxParams {
			gives(t, programOf(def(0, num(1)), def(params, num(2))), "(def 0 1)\n(def "+strconv.Itoa(params)+" 2)\n")
		} else {
			refused(t, programOf(def(0, num(1)), def(params, num(2))))
		}
		// Main has none.
		if params != 0 {
			refused(t, programOf(def(params, num(2))))
			refused(t, programOf(def(params, num(2)), def(0, num(1))))
		}
	}
}

// longest: how many bytes the text of a body of so many parts has at the most, the blank ahead of each part counted with it: a number's 6 and that, ` (@99)`, ` (let)` and ` (case @99 3)` around what is in them.
func longest(size int) int {
	most := []int{math.MinInt32, len(" -32768")}
	for n := 2; n <= size; n++ {
		best := len(" (@99)") + most[n-1]
		for a := 1; a < n-1; a++ {
			best = max(best, len(" (let)")+most[a]+most[n-1-a])
			for b := 1; a+b < n-1; b++ {
				best = max(best, len(" (case @99 3)")+most[a]+most[b]+most[n-1-a-b])
			}
		}
		most = append(most, best)
	}
	return slices.Max(most)
}

// TestP8_1LongestText: the greatest text that a program has, which is less than MaxSource bytes: no program that may be is refused for its size.
func TestP8_1LongestText(t *testing.T) {
	body := []api.Expr{num(-maxNum - 1)}
	text := "-32768"
	for range 7 {
		at := len(body)
		body = append(body, num(-maxNum-1), num(-maxNum-1), cases(maxTag, 3, at, at+1, at-1))
		text = "(case -32768 @99 3 -32768 " + text + ")"
	}
	at := len(body)
	body = append(body, num(-maxNum-1), let(at, at-1))
	text = "(let -32768 " + text + ")"
	if len(body) != maxBody {
		t.Fatalf("%d parts", len(body))
	}
	p := programOf(slices.Repeat([]api.Def{def(3, body...)}, maxDefs)...)
	p.Defs[0].Params = 0
	whole := inMain(text) + strings.Repeat("(def 3 "+text+")\n", maxDefs-1)
	gives(t, p, whole)
	if most := maxDefs * (len("(def 3)\n") + longest(maxBody)); len(whole) != most || most > maxSource {
		t.Errorf("the text has %d bytes, the longest one %d", len(whole), most)
	}
}

// TestP8_1TooLong: a text of just MaxSource bytes is one, one byte more is not. (No program has such a text: see TestP8_1LongestText.)
func TestP8_1TooLong(t *testing.T) {
	for _, size := range []int{0, 1, 1736, maxSource - 1, maxSource, maxSource + 1, maxSource + 2, 2 * maxSource, 1 << 16, 1<<16 + 1, 1 << 22} {
		s := strings.Repeat("x", size)
		got, e := limited(s)
		if size <= maxSource && (got != s || e != api.OK) || size > maxSource && (got != "" || e != api.ErrShowForm) {
			t.Errorf("%d bytes: %d, %d", size, len(got), e)
		}
	}
}

// wrongDefs are definitions that may not be, each by one thing, with one parameter unless that is it.
func wrongDefs() []api.Def {
	long, _ := chain(maxBody + 1)
	deep, _ := inLets(maxLevels, 0)
	out := []api.Def{
		{}, {Params: 1}, {Params: 1, Body: []api.Expr{}}, def(-1, num(1)), def(4, num(1)), def(math.MinInt, num(1)), def(math.MaxInt, num(1)),
		def(1, long...), def(1, deep...),
		// Parts that are no Kids, twice Kids, Kids that are not there or not ahead.
		def(1, num(1), num(1)), def(1, num(1), prims(0, 0, 0)), def(1, num(1), prims(0, 0, 1)), def(1, num(1), prims(0, 1, 0)), def(1, num(1), prims(0, 0, -1)), def(1, num(1), num(1), prims(0, 0, 2)),
		def(1, num(1), num(1), prims(0, 0, 3)), def(1, num(1), num(1), prims(0, 0, math.MaxInt)), def(1, num(1), num(1), prims(0, math.MinInt, 1)),
		def(1, con(1, 0)), def(1, con(1, 1), num(1)), def(1, con(1, 1), con(1, 0)), def(1, num(1), con(1, 0), con(2, 0)), def(1, num(1), num(1), con(2, 1)), def(1, num(1), con(1, 0), num(1)),
		// Variables that are not there.
		def(1, variable(1)), def(1, variable(-1)), def(0, variable(0)), def(1, variable(1), num(1), let(0, 1)), def(1, num(1), variable(2), let(0, 1)),
		def(1, num(1), variable(2), num(1), cases(1, 1, 0, 1, 2)), def(1, variable(1), num(1), num(1), cases(1, 1, 0, 1, 2)), def(1, num(1), num(1), variable(1), cases(1, 1, 0, 1, 2)),
		// Tags, Ops, Binds, calls.
		def(1, con(100)), def(1, con(-1)), def(1, num(1), num(1), prims(5, 0, 1)), def(1, num(1), num(1), prims(-1, 0, 1)), def(1, num(1), num(1), prims(math.MaxInt, 0, 1)), def(1, num(1), num(1), prims(math.MinInt, 0, 1)),
		def(1, num(1), num(1), num(1), cases(100, 0, 0, 1, 2)), def(1, num(1), num(1), num(1), cases(-1, 0, 0, 1, 2)), def(1, num(1), num(1), num(1), cases(1, 4, 0, 1, 2)), def(1, num(1), num(1), num(1), cases(1, -1, 0, 1, 2)),
		def(1, call(8)), def(1, call(-1)), def(1, call(math.MaxInt)), def(1, call(math.MinInt)), def(1, call(2)), def(1, num(1), call(0, 0)), def(1, call(1)), def(1, num(1), num(1), call(1, 0, 1)),
		def(1, num(32768)), def(1, num(-32769)),
	}
	// What is not named is 0, and no Kind beyond the Exprs is one.
	for kind := -2; kind <= 9; kind++ {
		if kind != api.ExprCase {
			out = append(out, def(1, part(kind, 0, 1)), def(1, num(1), num(1), part(kind, 0, 1, 0, 1)))
		}
		if kind < 0 || kind > api.ExprError {
			out = append(out, def(1, part(kind, 0, 0)), def(1, num(1), part(kind, 0, 0, 0)), def(1, num(1), num(1), part(kind, 0, 0, 0, 1)))
		}
	}
	out = append(out, def(1, part(math.MinInt, 0, 0)), def(1, part(math.MaxInt, 0, 0)))
	return append(out, def(1, part(api.ExprError, 1, 0)), def(1, num(1), num(1), part(api.ExprLet, 1, 0, 0, 1)))
}

// TestP8_1MayNotBe: one definition that may not be, at each place among others that may.
func TestP8_1MayNotBe(t *testing.T) {
	right := []api.Def{def(0, num(1)), def(1, variable(0))}
	gives(t, programOf(right...), "(def 0 1)\n(def 1 $0)\n")
	for _, wrong := range wrongDefs() {
		refused(t, programOf(def(0, num(1)), wrong))
		refused(t, programOf(append(slices.Clone(right), wrong)...))
		refused(t, programOf(def(0, num(1)), def(1, variable(0)), wrong, def(0, num(1))))
		refused(t, programOf(wrong))
		wrong.Params = 0
		// As main it may lack another thing, or nothing.
		agrees(t, programOf(wrong))
		agrees(t, programOf(wrong, def(1, variable(0))))
	}
	refused(t, api.Program{})
	refused(t, api.Program{Defs: []api.Def{}})
	refused(t, api.Program{Defs: right[:0]})
	refused(t, programOf(def(1, variable(0))))
	refused(t, programOf(def(1, variable(0)), def(0, num(1))))
	refused(t, mainOf(call(1)))
	refused(t, programOf(def(0, call(1)), def(1, num(1))))
	refused(t, programOf(def(0, num(1), call(1, 0)), def(0, num(1))))
	refused(t, programOf(slices.Repeat([]api.Def{def(0, num(1))}, maxDefs+1)...))
}

// slow: what is asked of Text, in another way: part by part in the row in which they stand, each one's text of those of its Kids; which programs may be is layer 6's.
func slow(p api.Program) (string, bool) {
	if !program.May(p) {
		return "", false
	}
	out := ""
	for _, d := range p.Defs {
		var texts []string
		for _, e := range d.Body {
			var kids []string
			for _, k := range e.Kids {
				kids = append(kids, texts[k])
			}
			texts = append(texts, slowPart(e, kids))
		}
		out += "(def " + strconv.Itoa(d.Params) + " " + texts[len(texts)-1] + ")\n"
	}
	return out, len(out) <= maxSource
}

// slowPart: a part's text by those of its Kids, as chapter 7's table has it.
func slowPart(e api.Expr, kids []string) string {
	form := map[int]string{api.ExprNum: "N", api.ExprVar: "$N", api.ExprCall: "(fN ?)", api.ExprCon: "(@N ?)", api.ExprPrim: "(O ?)", api.ExprCase: "(case 0 @N B 1 2)", api.ExprLet: "(let ?)", api.ExprError: "error"}[e.Kind]
	if e.Kind == api.ExprCase {
		form = strings.NewReplacer("0", kids[0], "1", kids[1], "2", kids[2], "N", strconv.Itoa(e.Num), "B", strconv.Itoa(e.Bind)).Replace(form)
		return form
	}
	if len(kids) == 0 {
		form = strings.ReplaceAll(form, " ?", "")
		form = regexp.MustCompile(`^\((@.*)\)$`).ReplaceAllString(form, "$1")
	}
	op := ""
	if e.Kind == api.ExprPrim {
		op = map[int]string{api.OpAdd: "+", api.OpSub: "-", api.OpMul: "*", api.OpEq: "=", api.OpLess: "<"}[e.Num]
	}
	return strings.NewReplacer("N", strconv.Itoa(e.Num), "O", op, "?", strings.Join(kids, " ")).Replace(form)
}

// agrees holds Text against slow; has it a text?
func agrees(t *testing.T, p api.Program) bool {
	t.Helper()
	want, ok := slow(p)
	if ok {
		gives(t, p, want)
	} else {
		refused(t, p)
	}
	return ok
}

// TestP8_1EachShortBody: all bodies of a few small parts, as main's and as another one's.
func TestP8_1EachShortBody(t *testing.T) {
	count := [2]int{}
	var more func(body []api.Expr, left int)
	more = func(body []api.Expr, left int) {
		if agrees(t, programOf(def(0, body...), def(1, num(1)))) {
			count[1]++
		} else {
			count[0]++
		}
		agrees(t, programOf(def(0, num(1)), def(1, body...)))
		if left == 0 {
			return
		}
		add := func(e api.Expr) { more(append(slices.Clone(body), e), left-1) }
		for _, e := range []api.Expr{num(-1), variable(0), call(0), con(2), fail()} {
			add(e)
		}
		for a := range len(body) {
			add(call(1, a))
			add(con(3, a))
			for b := range len(body) {
				add(con(4, a, b))
				add(prims(1, a, b))
				add(let(a, b))
				for c := range len(body) {
					add(cases(5, 1, a, b, c))
				}
			}
		}
	}
	more(nil, 3)
	more([]api.Expr{num(6), variable(0), num(7)}, 1)
	more([]api.Expr{num(6), num(7), con(1, 0)}, 1)
	if count[0] < 1000 || count[1] < 50 {
		t.Errorf("%d have no text, %d have one", count[0], count[1])
	}
}

// grown: an expression's text by chance, in a program whose definitions have so many Params, with at most so much in it.
func grown(r *rand.Rand, params []int, levels, deep int) string {
	kind := r.IntN(9)
	if deep == 0 {
		kind = []int{api.ExprNum, api.ExprVar, api.ExprError, 8}[r.IntN(4)]
	}
	some := func(n, more int) string {
		s := ""
		for range n {
			s += " " + grown(r, params, levels+more, deep-1)
		}
		return s
	}
	tag := "@" + strconv.Itoa(r.IntN(maxTag+1))
	switch {
	case kind == api.ExprVar && levels > 0:
		return "$" + strconv.Itoa(r.IntN(levels))
	case kind == api.ExprCall:
		f := r.IntN(len(params))
		return "(f" + strconv.Itoa(f) + some(params[f], 0) + ")"
	case kind == api.ExprCon:
		return "(" + tag + some(1+r.IntN(maxKids), 0) + ")"
	case kind == api.ExprPrim:
		return "(" + string("+-*=<"[r.IntN(5)]) + some(2, 0) + ")"
	case kind == api.ExprCase:
		bind := r.IntN(min(maxKids, maxLevels-levels) + 1)
		return "(case" + some(1, 0) + " " + tag + " " + strconv.Itoa(bind) + some(1, bind) + some(1, 0) + ")"
	case kind == api.ExprLet && levels < maxLevels:
		return "(let" + some(1, 0) + some(1, 1) + ")"
	case kind == api.ExprError:
		return "error"
	case kind == 8:
		return tag
	}
	return strconv.Itoa(r.IntN(2*maxNum+2) - maxNum - 1)
}

// made: a program by chance, and its text.
func made(r *rand.Rand) (api.Program, string) {
	for {
		params := []int{0}
		for range r.IntN(maxDefs) {
			params = append(params, r.IntN(maxParams+1))
		}
		s := ""
		for _, n := range params {
			s += "(def " + strconv.Itoa(n) + " " + grown(r, params, n, r.IntN(4)) + ")\n"
		}
		// Parse refuses what has too many parts.
		if p, e := parse.Parse(s); e == api.OK {
			return p, s
		}
	}
}

// mixed: each body's parts in another row by chance, each still behind its Kids.
func mixed(r *rand.Rand, p api.Program) api.Program {
	var out api.Program
	for _, d := range p.Defs {
		row := slices.Repeat([]int{-1}, len(d.Body))
		for next := range row {
			var free []int
			for at, e := range d.Body {
				if row[at] < 0 && !slices.ContainsFunc(e.Kids, func(k int) bool { return row[k] < 0 }) {
					free = append(free, at)
				}
			}
			row[free[r.IntN(len(free))]] = next
		}
		out.Defs = append(out.Defs, moved(d, row))
	}
	return out
}

// changed: one thing else, by chance, in memory of its own.
func changed(r *rand.Rand, p api.Program) api.Program {
	p = mixed(r, p)
	d := &p.Defs[r.IntN(len(p.Defs))]
	e := &d.Body[r.IntN(len(d.Body))]
	odd := []int{-32769, -32768, -1, 0, 1, 2, 3, 4, 5, 7, 8, 9, 99, 100, 32767, 32768, math.MinInt, math.MaxInt}
	switch r.IntN(9) {
	case 0:
		e.Kind = r.IntN(10) - 1
	case 1, 2:
		e.Num = odd[r.IntN(len(odd))]
	case 3:
		e.Bind = r.IntN(6) - 1
	case 4:
		e.Kids = append(e.Kids, r.IntN(len(d.Body)+2)-1)
	case 5:
		if len(e.Kids) > 0 {
			e.Kids[r.IntN(len(e.Kids))] = r.IntN(len(d.Body)+2) - 1
		}
	case 6:
		d.Params = r.IntN(6) - 1
	case 7:
		p.Defs = p.Defs[:len(p.Defs)-1]
	default:
		a, b := r.IntN(len(d.Body)), r.IntN(len(d.Body))
		d.Body[a], d.Body[b] = d.Body[b], d.Body[a]
	}
	return p
}

// TestP8_1ByChance: programs by chance, in the row in which Parse lays them and in others, and with one thing else.
func TestP8_1ByChance(t *testing.T) {
	r := rand.New(rand.NewPCG(8, 1))
	count := [2]int{}
	for range 4000 {
		p, s := made(r)
		gives(t, p, s)
		gives(t, mixed(r, p), s)
		for range 6 {
			if agrees(t, changed(r, p)) {
				count[1]++
			} else {
				count[0]++
			}
		}
	}
	if count[0] < 2000 || count[1] < 2000 {
		t.Errorf("%d have no text, %d have one", count[0], count[1])
	}
}

// TestP8_1Blanks: line ends and blanks stand where the chapter says, whatever the program is.
func TestP8_1Blanks(t *testing.T) {
	r := rand.New(rand.NewPCG(8, 2))
	line := regexp.MustCompile(`^\(def [0-3] [-+*=<$@()a-z0-9 ]+\)$`)
	wrong := regexp.MustCompile(`\( | \)|  |[^ (]\(|\)[^ )]`)
	for range 2000 {
		p, _ := made(r)
		s, e := Text(mixed(r, p))
		lines := strings.Split(s, "\n")
		if e != api.OK || len(lines) != len(p.Defs)+1 || lines[len(p.Defs)] != "" {
			t.Fatalf("%q, %d, of %d definitions", s, e, len(p.Defs))
		}
		for _, one := range lines[:len(p.Defs)] {
			if !line.MatchString(one) || wrong.MatchString(one) {
				t.Errorf("%q in %q", one, s)
			}
		}
	}
}

// same: are two programs the same, an empty list and none being one?
func same(a, b api.Program) bool {
	return slices.EqualFunc(a.Defs, b.Defs, func(c, d api.Def) bool {
		return c.Params == d.Params && slices.EqualFunc(c.Body, d.Body, func(e, f api.Expr) bool {
			return e.Kind == f.Kind && e.Num == f.Num && e.Bind == f.Bind && slices.Equal(e.Kids, f.Kids)
		})
	})
}

// TestP8_2ParseOfText: of each program's text Parse makes one of the same text; what Parse answered comes back as it was.
func TestP8_2ParseOfText(t *testing.T) {
	r := rand.New(rand.NewPCG(8, 3))
	turned := 0
	for range 4000 {
		p, _ := made(r)
		other := mixed(r, p)
		s, e := Text(other)
		again, f := parse.Parse(s)
		if e != api.OK || f != api.OK || !same(again, p) {
			t.Errorf("Text(%.900s) = %q, %d; Parse of it = %.900s, %d, want %.900s", told(other), s, e, told(again), f, told(p))
		}
		if twice, e := Text(again); twice != s || e != api.OK {
			t.Errorf("Text(Parse(%q)) = %q, %d", s, twice, e)
		}
		if !same(other, p) {
			turned++
		}
	}
	if turned < 1000 {
		t.Errorf("only %d stood in another row", turned)
	}
}

// TestP8_2ParseOfOtherTexts: remarks, line ends and blanks do not come back; the program does.
func TestP8_2ParseOfOtherTexts(t *testing.T) {
	for s, want := range map[string]string{
		"(def 0 1)": "(def 0 1)\n",
		"(def 0 (f1 21)) # main\n(def 1 (+ $0 $0))":                  "(def 0 (f1 21))\n(def 1 (+ $0 $0))\n",
		"\n ( def\n0 ( @1(f0 ) @2 ) ) # the end":                     "(def 0 (@1 (f0) @2))\n",
		"(def 0(case(f0)@1 0(let 1 $0)error))(def 3(< $2(- -1 $0)))": "(def 0 (case (f0) @1 0 (let 1 $0) error))\n(def 3 (< $2 (- -1 $0)))\n",
		"#\n(def 0 error)\n\n\n(def 1 $0)\n#\n(def 2 (* $0 $1))\n\n": "(def 0 error)\n(def 1 $0)\n(def 2 (* $0 $1))\n",
	} {
		p, e := parse.Parse(s)
		if e != api.OK {
			t.Errorf("Parse(%q) = %d", s, e)
		}
		gives(t, p, want)
		if again, e := parse.Parse(want); e != api.OK || !same(again, p) {
			t.Errorf("Parse(%q) = %s, %d, want %s", want, told(again), e, told(p))
		}
	}
}

// TestP8_1Great: what is far too great, or leads round, is refused, and soon (R1).
func TestP8_1Great(t *testing.T) {
	const size = 1 << 20
	refused(t, api.Program{Defs: make([]api.Def, size)})
	refused(t, programOf(slices.Repeat([]api.Def{def(0, num(1))}, size)...))
	refused(t, mainOf(make([]api.Expr, size)...))
	chained, _ := chain(1 << 16)
	refused(t, mainOf(chained...))
	for kind := -1; kind <= 8; kind++ {
		refused(t, mainOf(num(1), part(kind, 0, 0, make([]int, size)...)))
	}
	refused(t, programOf(def(0, call(1, make([]int, size)...)), def(size, num(1))))
	// Parts that are in themselves, and twice in others, which would have no end, or a far one.
	refused(t, mainOf(con(1, 0)))
	refused(t, mainOf(con(1, 1), con(1, 0)))
	refused(t, mainOf(num(1), con(1, 2), con(1, 1)))
	twice := []api.Expr{num(1)}
	for at := 1; at < maxBody; at++ {
		twice = append(twice, prims(api.OpAdd, at-1, at-1))
	}
	refused(t, mainOf(twice...))
}

// TestP8_1SpareRoom: what stands behind a list's end is not read; lists may share their memory (R4).
func TestP8_1SpareRoom(t *testing.T) {
	defs := []api.Def{def(0, num(1)), def(0, call(1)), {Params: -1}, def(7, call(9))}
	gives(t, programOf(defs[:1]...), "(def 0 1)\n")
	gives(t, programOf(defs[:2]...), "(def 0 1)\n(def 0 (f1))\n")
	refused(t, programOf(defs[:3]...))
	refused(t, programOf(defs[:0]...))
	body := []api.Expr{num(1), con(2, 0), call(5), num(99999)}
	gives(t, mainOf(body[:1]...), inMain("1"))
	gives(t, mainOf(body[:2]...), inMain("(@2 1)"))
	refused(t, mainOf(body[:3]...))
	kids := []int{0, 1, 2, 77}
	gives(t, mainOf(num(1), con(2, kids[:1]...)), inMain("(@2 1)"))
	gives(t, mainOf(con(2, kids[:0]...)), inMain("@2"))
	gives(t, mainOf(call(0, kids[:0]...)), inMain("(f0)"))
	gives(t, mainOf(part(api.ExprError, 0, 0, kids[:0]...)), inMain("error"))
	gives(t, mainOf(num(1), num(2), num(3), con(2, kids[:3]...)), inMain("(@2 1 2 3)"))
	// One list of Kids for two parts of two definitions, one body for all.
	gives(t, programOf(def(0, num(1), num(2), con(2, kids[:2]...)), def(0, num(3), num(4), prims(0, kids[:2]...))), "(def 0 (@2 1 2))\n(def 0 (+ 3 4))\n")
	shared := []api.Expr{call(1), call(2), prims(0, 0, 1)}
	gives(t, programOf(def(0, shared...), def(0, shared...), def(0, shared[:1]...)), "(def 0 (+ (f1) (f2)))\n(def 0 (+ (f1) (f2)))\n(def 0 (f1))\n")
	if !slices.Equal(kids, []int{0, 1, 2, 77}) {
		t.Error("a list of Kids was changed")
	}
}

// TestP8_1NothingLeftBehind: a program that is refused, or another one, turns no later answer, and no earlier one (R4, R5).
func TestP8_1NothingLeftBehind(t *testing.T) {
	const text = "(def 0 (f1 (@12 -7 @3) (f0)))\n(def 2 (case $0 @12 2 (let (+ $2 1) (- $4 (* $3 2))) (= (< $1 0) error)))\n"
	p := parsed(t, text)
	first, _ := Text(p)
	for _, between := range []api.Program{{}, mainOf(), mainOf(con(1, 0)), mainOf(num(5)), programOf(def(0, num(1)), def(9)), p, programOf(p.Defs[0])} {
		gives(t, p, text)
		agrees(t, between)
		gives(t, p, text)
	}
	// What came of a program stays when that is changed.
	p.Defs[0].Body[0].Num = 11
	p.Defs[1] = def(2, num(1))
	if first != text {
		t.Errorf("an answer turned to %q", first)
	}
}

// read: a program out of any bytes, each one a small number.
func read(data []byte) api.Program {
	take := func() int {
		if len(data) == 0 {
			return 0
		}
		n := int(int8(data[0]))
		data = data[1:]
		return n
	}
	var p api.Program
	for len(data) > 0 {
		d := api.Def{Params: take()}
		for range min(max(take(), 0), maxBody+2) {
			e := api.Expr{Kind: take(), Num: take(), Bind: take()}
			for range min(max(take(), 0), 5) {
				e.Kids = append(e.Kids, take())
			}
			d.Body = append(d.Body, e)
		}
		p.Defs = append(p.Defs, d)
	}
	return p
}

// written: bytes of which read tells p, if its numbers are small.
func written(p api.Program) []byte {
	var data []byte
	for _, d := range p.Defs {
		data = append(data, byte(d.Params), byte(len(d.Body)))
		for _, e := range d.Body {
			data = append(data, byte(e.Kind), byte(e.Num), byte(e.Bind), byte(len(e.Kids)))
			for _, k := range e.Kids {
				data = append(data, byte(k))
			}
		}
	}
	return data
}

func FuzzP8_1(f *testing.F) {
	r := rand.New(rand.NewPCG(8, 4))
	for range 200 {
		p, _ := made(r)
		f.Add(written(mixed(r, p)))
		f.Add(written(changed(r, p)))
	}
	f.Fuzz(func(t *testing.T, data []byte) {
		agrees(t, read(data))
	})
}

// TestP8_1FromSeveralAtOnce: each of several goroutines gets what one alone gets, of one and the same program (R5).
func TestP8_1FromSeveralAtOnce(t *testing.T) {
	good := programOf(def(0, num(1), call(1, 0)), def(1, num(2), variable(0), call(2, 1, 0)), def(2, call(0)))
	bad := programOf(def(0, num(1), call(1, 0)), def(1, call(3)))
	for i := range 8 {
		t.Run(strconv.Itoa(i), func(t *testing.T) {
			t.Parallel()
			for range 200 {
				gives(t, good, "(def 0 (f1 1))\n(def 1 (f2 $0 2))\n(def 2 (f0))\n")
				refused(t, bad)
			}
		})
	}
}
