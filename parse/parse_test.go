package parse

import (
	"math/rand/v2"
	"reflect"
	"regexp"
	"slices"
	"strconv"
	"strings"
	"testing"
	"unsafe"

	"sleuth/api"
	"sleuth/program"
)

// The limits as the document tells them, so that the tests do not lean on what the package leans on.
const (
	maxNum    = 32767
	maxTag    = 99
	maxKids   = 3
	maxSource = 2048
	maxDefs   = 8
	maxParams = 3
	maxBody   = 24
	maxLevels = 8
)

// part: short for a part of a body.
func part(kind, num, bind int, kids ...int) api.Expr {
	return api.Expr{Kind: kind, Num: num, Bind: bind, Kids: kids}
}

func num(n int) api.Expr                    { return part(api.ExprNum, n, 0) }
func variable(n int) api.Expr               { return part(api.ExprVar, n, 0) }
func call(f int, kids ...int) api.Expr      { return part(api.ExprCall, f, 0, kids...) }
func con(tag int, kids ...int) api.Expr     { return part(api.ExprCon, tag, 0, kids...) }
func prims(op int, kids ...int) api.Expr    { return part(api.ExprPrim, op, 0, kids...) }
func cases(tag, bind, a, b, c int) api.Expr { return part(api.ExprCase, tag, bind, a, b, c) }
func let(a, b int) api.Expr                 { return part(api.ExprLet, 0, 0, a, b) }
func fail() api.Expr                        { return part(api.ExprError, 0, 0) }
func def(params int, b ...api.Expr) api.Def { return api.Def{Params: params, Body: b} }
func programOf(defs ...api.Def) api.Program { return api.Program{Defs: defs} }
func mainOf(body ...api.Expr) api.Program   { return programOf(def(0, body...)) }
func inMain(s string) string                { return "(def 0 " + s + ")" }
func inLets(n int, s string) string         { return strings.Repeat("(let 1 ", n) + s + strings.Repeat(")", n) }
func behindMain(params int, s string) string {
	return "(def 0 1)(def " + strconv.Itoa(params) + " " + s + ")"
}

// same: are two programs the same, an empty list and none being one?
func same(a, b api.Program) bool {
	return slices.EqualFunc(a.Defs, b.Defs, func(c, d api.Def) bool {
		return c.Params == d.Params && slices.EqualFunc(c.Body, d.Body, func(e, f api.Expr) bool {
			return e.Kind == f.Kind && e.Num == f.Num && e.Bind == f.Bind && slices.Equal(e.Kids, f.Kids)
		})
	})
}

// gives: Parse(s) is just that, and no error beside it.
func gives(t *testing.T, s string, want api.Program) {
	t.Helper()
	if got, e := Parse(s); !same(got, want) || e != api.OK {
		t.Errorf("Parse(%.300q) = %+v, %d, want %+v, OK", s, got, e, want)
	}
}

// refused: ErrParseForm, and the zero program beside it (R2).
func refused(t *testing.T, s string) {
	t.Helper()
	if got, e := Parse(s); len(got.Defs) != 0 || e != api.ErrParseForm {
		t.Errorf("Parse(%.300q), of %d bytes, = %+v, %d, want none, ErrParseForm", s, len(s), got, e)
	}
}

// passes: Parse(s) is some program.
func passes(t *testing.T, s string) {
	t.Helper()
	if got, e := Parse(s); len(got.Defs) == 0 || e != api.OK {
		t.Errorf("Parse(%.300q), of %d bytes, = %+v, %d, want a program, OK", s, len(s), got, e)
	}
}

func TestP7_1EachRow(t *testing.T) {
	for _, c := range []struct {
		text string
		body []api.Expr
	}{
		{"7", []api.Expr{num(7)}},
		{"0", []api.Expr{num(0)}},
		{"-1", []api.Expr{num(-1)}},
		{"-300", []api.Expr{num(-300)}},
		{"(f0)", []api.Expr{call(0)}},
		{"@0", []api.Expr{con(0)}},
		{"@12", []api.Expr{con(12)}},
		{"(@0 1)", []api.Expr{num(1), con(0, 0)}},
		{"(@12 1 2)", []api.Expr{num(1), num(2), con(12, 0, 1)}},
		{"(@3 1 2 3)", []api.Expr{num(1), num(2), num(3), con(3, 0, 1, 2)}},
		{"(+ 1 2)", []api.Expr{num(1), num(2), prims(api.OpAdd, 0, 1)}},
		{"(- 1 2)", []api.Expr{num(1), num(2), prims(api.OpSub, 0, 1)}},
		{"(* 1 2)", []api.Expr{num(1), num(2), prims(api.OpMul, 0, 1)}},
		{"(= 1 2)", []api.Expr{num(1), num(2), prims(api.OpEq, 0, 1)}},
		{"(< 1 2)", []api.Expr{num(1), num(2), prims(api.OpLess, 0, 1)}},
		{"(- -1 -2)", []api.Expr{num(-1), num(-2), prims(api.OpSub, 0, 1)}},
		{"(case 1 @5 0 2 3)", []api.Expr{num(1), num(2), num(3), cases(5, 0, 0, 1, 2)}},
		{"(case @5 @5 3 $2 3)", []api.Expr{con(5), variable(2), num(3), cases(5, 3, 0, 1, 2)}},
		{"(let 1 2)", []api.Expr{num(1), num(2), let(0, 1)}},
		{"(let 1 $0)", []api.Expr{num(1), variable(0), let(0, 1)}},
		{"error", []api.Expr{fail()}},
	} {
		gives(t, inMain(c.text), mainOf(c.body...))
		gives(t, behindMain(3, c.text), programOf(def(0, num(1)), def(3, c.body...)))
	}
	gives(t, "(def 0 1)(def 3 (@1 $0 $1 $2))", programOf(def(0, num(1)), def(3, variable(0), variable(1), variable(2), con(1, 0, 1, 2))))
	gives(t, "(def 0 (f1 5))(def 1 $0)", programOf(def(0, num(5), call(1, 0)), def(1, variable(0))))
	gives(t, "(def 0 (f1 5 6))(def 2 $1)", programOf(def(0, num(5), num(6), call(1, 0, 1)), def(2, variable(1))))
	gives(t, "(def 0 (f1 5 6 7))(def 3 $2)", programOf(def(0, num(5), num(6), num(7), call(1, 0, 1, 2)), def(3, variable(2))))
}

// TestP7_1RowOfParts: each part right behind all that is in it, the Kids in their row.
func TestP7_1RowOfParts(t *testing.T) {
	gives(t, inMain("(- (* 1 2) (+ 3 4))"), mainOf(num(1), num(2), prims(api.OpMul, 0, 1), num(3), num(4), prims(api.OpAdd, 3, 4), prims(api.OpSub, 2, 5)))
	gives(t, inMain("(< 1 (< 2 (< 3 4)))"), mainOf(num(1), num(2), num(3), num(4), prims(4, 2, 3), prims(4, 1, 4), prims(4, 0, 5)))
	gives(t, inMain("(< (< (< 1 2) 3) 4)"), mainOf(num(1), num(2), prims(4, 0, 1), num(3), prims(4, 2, 3), num(4), prims(4, 4, 5)))
	gives(t, inMain("(@1 (@2 1 2) @3 (@4 (@5 3)))"), mainOf(num(1), num(2), con(2, 0, 1), con(3), num(3), con(5, 4), con(4, 5), con(1, 2, 3, 6)))
	gives(t, inMain("(case (@1 1 2) @1 2 (+ $0 $1) (let 3 $0))"), mainOf(num(1), num(2), con(1, 0, 1), variable(0), variable(1), prims(0, 3, 4), num(3), variable(0), let(6, 7), cases(1, 2, 2, 5, 8)))
	gives(t, inMain("(case (case 1 @2 0 3 4) @5 1 (case $0 @6 0 7 8) (case 9 @10 3 $2 12))"), mainOf(
		num(1), num(3), num(4), cases(2, 0, 0, 1, 2),
		variable(0), num(7), num(8), cases(6, 0, 4, 5, 6),
		num(9), variable(2), num(12), cases(10, 3, 8, 9, 10),
		cases(5, 1, 3, 7, 11)))
	gives(t, inMain("(let (let 1 $0) (let $0 (= $0 $1)))"), mainOf(num(1), variable(0), let(0, 1), variable(0), variable(0), variable(1), prims(3, 4, 5), let(3, 6), let(2, 7)))
	gives(t, "(def 0 (f1 (f1 1 error) (f1 (f0) @7)))(def 2 $0)", programOf(def(0, num(1), fail(), call(1, 0, 1), call(0), con(7), call(1, 3, 4), call(1, 2, 5)), def(2, variable(0))))
}

// TestP7_1Several: definitions that call one another, themselves and main; each body counts its parts anew.
func TestP7_1Several(t *testing.T) {
	gives(t, `(def 0 (f1 (f2 1 5)))
(def 1 (case $0 @1 2 (+ $1 (f1 $2)) 0)) # the sum of a row
(def 2 (case (< $0 $1) @1 0 (@1 $0 (f2 (+ $0 1) $1)) @0)) # a row
`, programOf(
		def(0, num(1), num(5), call(2, 0, 1), call(1, 2)),
		def(1, variable(0), variable(1), variable(2), call(1, 2), prims(api.OpAdd, 1, 3), num(0), cases(1, 2, 0, 4, 5)),
		def(2, variable(0), variable(1), prims(api.OpLess, 0, 1), variable(0), variable(0), num(1), prims(api.OpAdd, 4, 5), variable(1), call(2, 6, 7), con(1, 3, 8), con(0), cases(1, 0, 2, 9, 10))))
	gives(t, "(def 0 (f0))(def 0 (f1))(def 0 (f0))", programOf(def(0, call(0)), def(0, call(1)), def(0, call(0))))
	gives(t, "(def 0 (f2 1 2))(def 1 (f0))(def 2 (f1 (f2 $1 $0)))", programOf(def(0, num(1), num(2), call(2, 0, 1)), def(1, call(0)), def(2, variable(1), variable(0), call(2, 0, 1), call(1, 2))))
	gives(t, "(def 0 1)(def 3 $2)(def 1 $0)(def 2 error)", programOf(def(0, num(1)), def(3, variable(2)), def(1, variable(0)), def(2, fail())))
}

// sample is a program's text that has each row of the table and every kind of word.
const sample = "(def 0 (f1 (@12 -7 @3) (f0)))(def 2 (case $0 @12 2 (let (+ $2 1) (- $4 (* $3 2))) (= (< $1 0) error)))"

func TestP7_1Words(t *testing.T) {
	want, e := Parse(sample)
	if e != api.OK || len(want.Defs) != 2 {
		t.Fatalf("Parse(%q) = %+v, %d", sample, want, e)
	}
	words := wordsOf(sample)
	for _, gap := range []string{" ", "  ", "\n", "\n\n", " \n ", "\n \n", "#\n", " # (def 9\n", "#)\n#(\n", " ## # x\n "} {
		s := strings.Join(words, gap)
		gives(t, s, want)
		gives(t, gap+s, want)
		gives(t, s+gap, want)
		gives(t, gap+s+gap, want)
		for i := range words {
			gives(t, strings.Join(words[:i], " ")+gap+strings.Join(words[i:], " "), want)
		}
	}
	gives(t, sample+"#", want)
	gives(t, sample+" # to the end )", want)
	gives(t, "# ahead (\n"+sample, want)
	// A bracket parts two words, and nothing else is needed beside it.
	tight := regexp.MustCompile(` *([()]) *`).ReplaceAllString(sample, "$1")
	if len(tight) >= len(sample) {
		t.Fatalf("%q is no shorter", tight)
	}
	gives(t, tight, want)
	gives(t, "(def 0(+(f0)(@1(f0)2)))", mainOf(call(0), call(0), num(2), con(1, 1, 2), prims(0, 0, 3)))
	gives(t, "(def 0(case(f0)@1 0(f0)(f0)))", mainOf(call(0), call(0), call(0), cases(1, 0, 0, 1, 2)))
	// Where no bracket stands, two words in one are another word.
	for _, s := range []string{"(def0 1)", "(def 01)", "(def 0 (+1 2))", "(def 0 (+ 12))", "(def 0 (let1 2))", "(def 0 (let 12))", "(def 0 (case1 @1 0 2 3))", "(def 0 (case 1@1 0 2 3))", "(def 0 (case 1 @10 2 3))", "(def 0 (case 1 @1 02 3))", "(def 0 (@1$0))", "(def 0 (let 1 (+ $0$0)))", "(def 0 (@1 error1))", "(def 0 (@1 1error))", "(def 0 (@1 @1@1))", "(def 0 (f 0))", "(def 0 (let 1 $ 0))", "(def 0 @ 1)", "(def 0 (@ 1 1))", "(def 0 - 1)", "(de f 0 1)", "(def 0 (ca se 1 @1 0 2 3))"} {
		refused(t, s)
	}
	// A remark ends a word, and what is in it does not count.
	gives(t, "(def 0 1# 2\n)", mainOf(num(1)))
	refused(t, "(def 0 1# )")
	refused(t, "(def 0 1#\n2)")
	refused(t, "#(def 0 1)")
	refused(t, "(def 0 er#\nror)")
}

func TestP7_1Numbers(t *testing.T) {
	for n := -maxNum - 1; n <= maxNum; n += 7 {
		gives(t, inMain(strconv.Itoa(n)), mainOf(num(n)))
	}
	for _, n := range []int{-maxNum - 1, -maxNum, -10, -9, -1, 0, 1, 9, 10, 99, 100, maxNum - 1, maxNum} {
		gives(t, inMain(strconv.Itoa(n)), mainOf(num(n)))
		gives(t, inMain("(@1 "+strconv.Itoa(n)+")"), mainOf(num(n), con(1, 0)))
	}
	for _, s := range []string{
		"-32769", "32768", "-32770", "40000", "65536", "-65536", "99999", "2147483648", "4294967296", "-4294967295", "9223372036854775807", "9223372036854775808", "-9223372036854775809", "18446744073709551616", "99999999999999999999999999",
		"00", "01", "007", "-0", "-00", "-01", "-032768", "032767", "+1", "+0", "--1", "-", "-+1", "1-", "1-1", "1_000", "0x1", "0b1", "0o7", "1e3", "1.", "1.0", ".5", "1,0", "'1'", strings.Repeat("0", 1025), strings.Repeat("1", 1500), "1" + strings.Repeat("0", 1500),
	} {
		refused(t, inMain(s))
		refused(t, inMain("(@1 "+s+")"))
		refused(t, inMain("(+ "+s+" 1)"))
	}
}

func TestP7_1Tags(t *testing.T) {
	for tag := range maxTag + 1 {
		s := "@" + strconv.Itoa(tag)
		gives(t, inMain(s), mainOf(con(tag)))
		gives(t, inMain("("+s+" 1)"), mainOf(num(1), con(tag, 0)))
		gives(t, inMain("(case 1 "+s+" 0 2 3)"), mainOf(num(1), num(2), num(3), cases(tag, 0, 0, 1, 2)))
	}
	for _, s := range []string{"@100", "@101", "@255", "@256", "@32767", "@32768", "@65536", "@4294967296", "@18446744073709551616", "@99999999999999999999", "@00", "@01", "@099", "@-0", "@-1", "@-99", "@+1", "@", "@@1", "@_", "@!", "@x", "@1x", "@1@", "x@1", "-@1", "@1-", "@$1", "@f1", "@1.0", "@0x1"} {
		refused(t, inMain(s))
		refused(t, inMain("("+s+" 1)"))
		refused(t, inMain("(case 1 "+s+" 0 2 3)"))
	}
}

func TestP7_1Levels(t *testing.T) {
	for params := range maxParams + 1 {
		for lets := range maxLevels - params + 2 {
			for level := range maxLevels + 2 {
				s := behindMain(params, inLets(lets, "$"+strconv.Itoa(level)))
				if params+lets <= maxLevels && level < params+lets {
					passes(t, s)
				} else {
					refused(t, s)
				}
			}
		}
	}
	gives(t, inMain("(case 1 @1 3 (case 2 @1 3 (case 3 @1 2 $7 4) 5) 6)"), mainOf(num(1), num(2), num(3), variable(7), num(4), cases(1, 2, 2, 3, 4), num(5), cases(1, 3, 1, 5, 6), num(6), cases(1, 3, 0, 7, 8)))
	refused(t, inMain("(case 1 @1 3 (case 2 @1 3 (case 3 @1 2 $8 4) 5) 6)"))
	refused(t, inMain("(case 1 @1 3 (case 2 @1 3 (case 3 @1 3 $7 4) 5) 6)"))
	// What is bound is there in the second Kid alone.
	refused(t, inMain("(let $0 1)"))
	refused(t, inMain("(case $0 @1 1 1 1)"))
	refused(t, inMain("(case 1 @1 1 1 $0)"))
	refused(t, inMain("(case 1 @1 0 $0 1)"))
	refused(t, inMain("(+ (let 1 $0) $0)"))
	for _, s := range []string{"$", "$00", "$01", "$-0", "$-1", "$+0", "$$0", "$x", "$0x", "x$0", "$@0", "$f0", "-$0", "$0-", "$_", "$!", "$32768", "$65536", "$4294967296", "$18446744073709551616", "($0)"} {
		refused(t, behindMain(3, s))
		refused(t, behindMain(3, "(@1 "+s+")"))
	}
}

func TestP7_1Calls(t *testing.T) {
	for n := 1; n <= maxDefs; n++ {
		rest := strings.Repeat("(def 0 1)", n-1)
		for f := range maxDefs + 2 {
			s := inMain("(f"+strconv.Itoa(f)+")") + rest
			if f < n {
				passes(t, s)
			} else {
				refused(t, s)
			}
		}
	}
	for params := range maxParams + 1 {
		for kids := range maxParams + 2 {
			s := inMain("(f1"+strings.Repeat(" 5", kids)+")") + "(def " + strconv.Itoa(params) + " 1)"
			if kids == params {
				passes(t, s)
			} else {
				refused(t, s)
			}
		}
	}
	for _, s := range []string{"f", "f00", "f01", "f-0", "f-1", "f+1", "ff1", "f_", "f!", "fx", "f1x", "F0", "F1", "f@1", "f$1", "f1.", "1f", "f32768", "f65536", "f4294967296", "f18446744073709551616", "(f1)", "def", "main"} {
		refused(t, inMain("("+s+")")+"(def 0 1)")
		refused(t, inMain("("+s+" 1)")+"(def 1 1)")
	}
	refused(t, inMain("f0"))
	refused(t, inMain("(@1 f0)"))
}

func TestP7_1Kids(t *testing.T) {
	for kids := range maxKids + 3 {
		row := strings.Repeat(" 1", kids)
		for s, some := range map[string][2]int{"@1": {1, 3}, "f0": {0, 0}, "+": {2, 2}, "-": {2, 2}, "*": {2, 2}, "=": {2, 2}, "<": {2, 2}, "let": {2, 2}, "case 1 @1 0": {2, 2}, "case 1 @1 1": {2, 2}, "error": {9, 9}, "1": {9, 9}} {
			if text := inMain("(" + s + row + ")"); some[0] <= kids && kids <= some[1] {
				passes(t, text)
				passes(t, inMain("(@2 ("+s+row+"))"))
			} else {
				refused(t, text)
				refused(t, inMain("(@2 ("+s+row+"))"))
				refused(t, behindMain(0, "("+s+row+")"))
			}
		}
	}
	refused(t, inMain("(@1 1 1 1 1 1 1 1 1 1 1 1 1)"))
}

func TestP7_1NumberOfParts(t *testing.T) {
	for bind := range maxKids + 1 {
		gives(t, inMain("(case 1 @2 "+strconv.Itoa(bind)+" 3 4)"), mainOf(num(1), num(3), num(4), cases(2, bind, 0, 1, 2)))
	}
	for _, s := range []string{"4", "5", "99", "-1", "-0", "00", "01", "03", "+1", "1.0", "x", "@1", "$1", "f1", "error", "(1)", "(f0)", "_", "!", "", "256", "65536", "4294967296", "18446744073709551616", "18446744073709551617"} {
		refused(t, inMain("(case 1 @2 "+s+" 3 4)"))
	}
}

func TestP7_1Params(t *testing.T) {
	for params := range maxParams + 1 {
		gives(t, behindMain(params, "1"), programOf(def(0, num(1)), def(params, num(1))))
	}
	for _, s := range []string{"4", "5", "99", "-1", "-0", "00", "01", "03", "+1", "1.0", "x", "@1", "$1", "f1", "error", "(1)", "(f0)", "()", "_", "!", "", "256", "65536", "4294967296", "18446744073709551616", "18446744073709551617"} {
		refused(t, "(def 0 1)(def "+s+" 1)")
		refused(t, "(def "+s+" 1)")
	}
	// Main has none.
	for params := 1; params <= maxParams; params++ {
		refused(t, "(def "+strconv.Itoa(params)+" 1)")
		refused(t, "(def "+strconv.Itoa(params)+" 1)(def 0 1)")
	}
}

// wide: an expression of that many parts, 2 or more, as flat as may be.
func wide(parts int) string {
	switch {
	case parts == 1:
		return "1"
	case parts <= 4:
		return "(@1" + strings.Repeat(" 1", parts-1) + ")"
	}
	return "(@1 1 1 " + wide(parts-3) + ")"
}

func TestP7_1Sizes(t *testing.T) {
	for parts := 1; parts <= maxBody+4; parts++ {
		for _, s := range []string{wide(parts), strings.Repeat("(@1 ", parts-1) + "1" + strings.Repeat(")", parts-1)} {
			if parts <= maxBody {
				passes(t, inMain(s))
				passes(t, behindMain(2, s))
			} else {
				refused(t, inMain(s))
				refused(t, behindMain(2, s))
			}
		}
		if got, e := Parse(inMain(wide(parts))); e == api.OK && len(got.Defs[0].Body) != parts {
			t.Errorf("%d parts, want %d", len(got.Defs[0].Body), parts)
		}
	}
	for defs := range maxDefs + 4 {
		s := strings.Repeat("(def 0 1)", defs)
		if 1 <= defs && defs <= maxDefs {
			gives(t, s, api.Program{Defs: slices.Repeat([]api.Def{def(0, num(1))}, defs)})
		} else {
			refused(t, s)
		}
	}
	// The limit of parts is each body's own.
	passes(t, strings.Repeat(inMain(wide(maxBody)), maxDefs))
}

func TestP7_1LongestTexts(t *testing.T) {
	const s = "(def 0 1)"
	for _, size := range []int{maxSource - 1, maxSource, maxSource + 1, maxSource + 2} {
		room := size - len(s)
		for _, long := range []string{s + strings.Repeat(" ", room), strings.Repeat("\n", room) + s, s + "#" + strings.Repeat("(", room-1), "#" + strings.Repeat("x", room-2) + "\n" + s, "(def 0 " + strings.Repeat(" ", room) + "1)"} {
			if len(long) != size {
				t.Fatalf("%d bytes, want %d", len(long), size)
			}
			if size <= maxSource {
				gives(t, long, mainOf(num(1)))
			} else {
				refused(t, long)
			}
		}
	}
	for _, long := range []string{s + strings.Repeat("x", maxSource-len(s)), strings.Repeat("(", maxSource), strings.Repeat(")", maxSource), strings.Repeat("#", maxSource+1), strings.Repeat(s, 400)} {
		refused(t, long)
	}
}

func TestP7_1NoWords(t *testing.T) {
	for _, s := range []string{"", " ", "\n", " \n ", "#", "##\n", "# (def 0 1)", "#\n#(def 0 1)\n"} {
		refused(t, s)
	}
}

func TestP7_1NoProgram(t *testing.T) {
	for _, s := range []string{
		"(", ")", "()", ")(", "(())", "def", "(def", "(def 0", "(def 0 1", "def 0 1)", "def 0 1",
		"(def)", "(def 0)", "(def 0 )", "(def 1)", "(def 0 1 2)", "(def 0 1 error)", "(def 0 1 (f0))", "(def 0 0 1)", "(def 0 ())", "(def 0 (()))", "(def 0 (1))", "(def 0 ((f0)))", "(def 0 ((@1 1)))", "(def 0 (error))", "(def 0 ($0))", "(def 0 (@1))", "(def 0 (@0))", "(def 0 (@1 (@1)))", "(def 0 (@1 ()))",
		"(def 0 1))", "((def 0 1))", "((def 0 1)", "(def 0 1)(", "(def 0 1))(", "(def 0 1)()", ")(def 0 1)", "()(def 0 1)", "(def 0 (def 0 1))", "(def 0 (@1 (def 0 1)))", "(def 0 1 (def 0 2))", "(def 0 1)(def 0", "(def 0 1)(def 0 2", "(def 0 1)(def 0 2))",
		"(def 0 1) x", "(def 0 1) 1", "x (def 0 1)", "1 (def 0 1)", "(def 0 1) def 0 1", "(def 0 1) error", "(def 0 1)#\n)",
		"(Def 0 1)", "(DEF 0 1)", "(define 0 1)", "(de 0 1)", "(defx 0 1)", "(def0 1)", "(main 0 1)", "(0 1)", "(f0 0 1)", "(let 0 1)",
		"(def 0 def)", "(def 0 let)", "(def 0 case)", "(def 0 +)", "(def 0 -)", "(def 0 *)", "(def 0 =)", "(def 0 <)", "(def 0 f0)", "(def 0 f)", "(def 0 _)", "(def 0 !)", "(def 0 x)", "(def 0 Error)", "(def 0 ERROR)", "(def 0 err)", "(def 0 errors)", "(def 0 \"1\")", "(def 0 ,)",
		"(def 0 (x 1 2))", "(def 0 (/ 1 2))", "(def 0 (% 1 2))", "(def 0 (> 1 2))", "(def 0 (== 1 2))", "(def 0 (<= 1 2))", "(def 0 (++ 1 2))", "(def 0 (+- 1 2))", "(def 0 (+-*=< 1 2))", "(def 0 (Let 1 2))", "(def 0 (letrec 1 2))", "(def 0 (Case 1 @1 0 2 3))", "(def 0 (_ 1 2))", "(def 0 (! 1 2))", "(def 0 (error 1 2))", "(def 0 (def 1 2))", "(def 0 (-1 2))", "(def 0 (-1 2 3))", "(def 0 (1 2 3))",
		"(def 0 1 + 2)", "(def 0 (1 + 2))", "(def 0 @1(1))", "(def 0 @1(1 2))", "(def 0 f0())", "[def 0 1]", "{def 0 1}", "(def 0 1];",
		"(def 0 (case))", "(def 0 (case 1))", "(def 0 (case 1 @1))", "(def 0 (case 1 @1 0))", "(def 0 (case 1 @1 0 2))", "(def 0 (case 1 @1 0 2 3 4))", "(def 0 (case 1 2 @1 0 3 4))", "(def 0 (case @1 1 0 2 3))", "(def 0 (case 1 0 @1 2 3))", "(def 0 (case 1 (@1 1) 0 2 3))", "(def 0 (case 1 (@1) 0 2 3))", "(def 0 (case 1 @1 2 3))", "(def 0 (case @1 0 2 3))", "(def 0 (case 1 @1 (0) 2 3))", "(def 0 (case 1 @1 0 2 3)", "(def 0 (case 1 @1 0 2 3)))", "(def 0 case 1 @1 0 2 3)",
		"(def 0 (let))", "(def 0 (let 1))", "(def 0 (let 1 2 3))", "(def 0 (let (1) 2))", "(def 0 (let 1 2)", "(def 0 let 1 2)", "(def 0 (let $0 1 2))",
	} {
		refused(t, s)
		refused(t, "(def 0 5)"+s)
		refused(t, " "+s+" # no\n")
	}
}

// TestP7_1RefusedByLex: a byte that may not be, wherever it stands, in a remark too.
func TestP7_1RefusedByLex(t *testing.T) {
	const s = "(def 0 1)# ok\n"
	gives(t, s, mainOf(num(1)))
	for c := range 256 {
		if c == 10 || c >= 32 && c <= 126 {
			continue
		}
		for i := range len(s) + 1 {
			refused(t, s[:i]+string([]byte{byte(c)})+s[i:])
		}
	}
	for _, w := range []string{"\r\n", "é", "\u00a0", "\u2028", "\ufeff", "１", "−1"} {
		refused(t, w+s)
		refused(t, s+w)
		refused(t, "(def 0 "+w+")")
	}
}

// others are words of every kind, and pieces of some.
var others = []string{"(", ")", "def", "let", "case", "error", "+", "-", "*", "=", "<", "f0", "f1", "f2", "f7", "f8", "$0", "$1", "$4", "$7", "$8", "@0", "@12", "@99", "@100", "0", "1", "2", "3", "4", "-1", "-0", "00", "01", "32767", "32768", "-32768", "-32769", "f", "$", "@", "f01", "$00", "@012", "f-1", "$-1", "@-1", "_", "!", "x", "()", "(f0)", "(@1 2)", "(@1)", "(1)", "(def 0 1)"}

// TestP7_1AnotherWord: in each place of each row a word of another kind, one less, one more, two that changed places.
func TestP7_1AnotherWord(t *testing.T) {
	count := [2]int{}
	see := func(words []string) {
		if agrees(t, strings.Join(words, " ")) {
			count[1]++
		} else {
			count[0]++
		}
	}
	words := wordsOf(sample)
	for i := range words {
		see(slices.Delete(slices.Clone(words), i, i+1))
		for j := range i {
			turned := slices.Clone(words)
			turned[i], turned[j] = turned[j], turned[i]
			see(turned)
			see(slices.Delete(slices.Clone(words), j, i+1))
		}
		for _, w := range others {
			put := slices.Clone(words)
			put[i] = w
			see(put)
			see(slices.Insert(slices.Clone(words), i, w))
		}
	}
	if count[0] < 1000 || count[1] < 100 {
		t.Errorf("%d are no programs, %d are", count[0], count[1])
	}
}

// TestP7_1EachSmallWord: all words of one byte and of two, alone and behind a bracket, are what the table says, or nothing.
func TestP7_1EachSmallWord(t *testing.T) {
	see := func(w string) {
		agrees(t, inMain(w))
		agrees(t, inMain("(let 1 "+w+")"))
		for kids := range 4 {
			agrees(t, inMain("("+w+strings.Repeat(" 1", kids)+")"))
		}
		agrees(t, inMain("("+w+" 1 @1 0 2 3)"))
		agrees(t, "("+w+" 0 1)")
	}
	for a := '!'; a <= '~'; a++ {
		see(string(a))
		for b := '!'; b <= '~'; b++ {
			see(string([]rune{a, b}))
		}
	}
}

// TestP7_1EachPrefix: a text that breaks off, at whichever byte, is no program any more, unless a definition ends there.
func TestP7_1EachPrefix(t *testing.T) {
	for i := range len(sample) {
		agrees(t, sample[:i])
		agrees(t, sample[i:])
		refused(t, sample[:i])
	}
	const s = "(def 0 1)(def 1 $0)(def 0 (f1 2))"
	for i := range len(s) + 1 {
		if i == len("(def 0 1)") || i == len("(def 0 1)(def 1 $0)") || i == len(s) {
			passes(t, s[:i])
		} else {
			refused(t, s[:i])
		}
	}
}

var (
	remark  = regexp.MustCompile(`#[^\n]*`)
	word    = regexp.MustCompile(`[()]|[^ \n()]+`)
	decimal = regexp.MustCompile(`^(0|[1-9][0-9]{0,6})$`)
	signed  = regexp.MustCompile(`^(0|-?[1-9][0-9]{0,6})$`)
)

// wordsOf: the words of a text that layer 4 does not refuse.
func wordsOf(s string) []string {
	return word.FindAllString(remark.ReplaceAllString(s, ""), -1)
}

// item is a word, or what stands in brackets.
type item struct {
	word string
	in   []item
	list bool
}

// nested: what stands in no bracket of s, with what stands in each; false, if the brackets do not match, or layer 4 refuses s.
func nested(s string) ([]item, bool) {
	if len(s) > maxSource || regexp.MustCompile(`[^\n -~]`).MatchString(s) {
		return nil, false
	}
	open := [][]item{nil}
	for _, w := range wordsOf(s) {
		top := len(open) - 1
		switch w {
		case "(":
			open = append(open, nil)
		case ")":
			if top == 0 {
				return nil, false
			}
			open[top-1] = append(open[top-1], item{in: open[top], list: true})
			open = open[:top]
		default:
			open[top] = append(open[top], item{word: w})
		}
	}
	return open[0], len(open) == 1
}

// value: the number of a word of that form behind that sign.
func value(i item, sign string, form *regexp.Regexp) (int, bool) {
	if i.list || !strings.HasPrefix(i.word, sign) || !form.MatchString(i.word[len(sign):]) {
		return 0, false
	}
	n, err := strconv.Atoi(i.word[len(sign):])
	return n, err == nil
}

// writer puts parts one behind the other; wrong, as soon as something was no expression.
type writer struct {
	body  []api.Expr
	wrong bool
}

// put: all of an item's parts; where the last one stands.
func (w *writer) put(i item) int {
	e, kids, ok := rowOf(i)
	w.wrong = w.wrong || !ok
	for _, k := range kids {
		e.Kids = append(e.Kids, w.put(k))
	}
	w.body = append(w.body, e)
	return len(w.body) - 1
}

// rowOf: which row of the chapter's table an item is, and its expressions; false, if none.
func rowOf(i item) (api.Expr, []item, bool) {
	if !i.list {
		for kind, sign := range map[int]string{api.ExprVar: "$", api.ExprCon: "@"} {
			if n, ok := value(i, sign, decimal); ok {
				return part(kind, n, 0), nil, true
			}
		}
		if n, ok := value(i, "", signed); ok {
			return num(n), nil, true
		}
		return fail(), nil, i.word == "error"
	}
	if len(i.in) == 0 || i.in[0].list {
		return fail(), nil, false
	}
	first, rest := i.in[0], i.in[1:]
	if op, ok := map[string]int{"+": 0, "-": 1, "*": 2, "=": 3, "<": 4}[first.word]; ok {
		return prims(op), rest, len(rest) == 2
	}
	if n, ok := value(first, "f", decimal); ok {
		return call(n), rest, true
	}
	if n, ok := value(first, "@", decimal); ok {
		return con(n), rest, len(rest) > 0
	}
	if first.word == "case" && len(rest) == 5 {
		tag, isTag := value(rest[1], "@", decimal)
		bind, isNumber := value(rest[2], "", decimal)
		return part(api.ExprCase, tag, bind), []item{rest[0], rest[3], rest[4]}, isTag && isNumber
	}
	return part(api.ExprLet, 0, 0), rest, first.word == "let" && len(rest) == 2
}

// slow: what is asked of Parse, in another way: brackets first, then the table, from without to within; which programs may be is layer 6's.
func slow(s string) (api.Program, bool) {
	items, ok := nested(s)
	if !ok {
		return api.Program{}, false
	}
	var p api.Program
	for _, i := range items {
		if len(i.in) != 3 || i.in[0].word != "def" {
			return api.Program{}, false
		}
		params, ok := value(i.in[1], "", decimal)
		w := &writer{}
		w.put(i.in[2])
		if !ok || w.wrong {
			return api.Program{}, false
		}
		p.Defs = append(p.Defs, api.Def{Params: params, Body: w.body})
	}
	if !program.May(p) {
		return api.Program{}, false
	}
	return p, true
}

// agrees holds Parse against slow; is it a program?
func agrees(t *testing.T, s string) bool {
	t.Helper()
	want, ok := slow(s)
	if ok {
		gives(t, s, want)
	} else {
		refused(t, s)
	}
	return ok
}

// TestP7_1EachShortText: all rows of a few words, as a body and as a whole.
func TestP7_1EachShortText(t *testing.T) {
	words := []string{"(", ")", "f0", "@1", "+", "let", "case", "0", "-1", "$0", "error", "def"}
	count := [2]int{}
	var more func(s string, left int)
	more = func(s string, left int) {
		agrees(t, s)
		if agrees(t, inMain(s)) {
			count[1]++
		} else {
			count[0]++
		}
		if left == 0 {
			return
		}
		for _, w := range words {
			more(s+w+" ", left-1)
		}
	}
	more("", 5)
	if count[0] < 1000 || count[1] < 50 {
		t.Errorf("%d are no programs, %d are", count[0], count[1])
	}
}

// TestP7_1RowsInRows: each row of the table as each Kid of each row, and that once more.
func TestP7_1RowsInRows(t *testing.T) {
	rows := []string{"7", "-3", "$0", "(f0)", "(f1 ?)", "(f2 ? ?)", "@4", "(@5 ?)", "(@6 ? ?)", "(@7 ? ? ?)", "(+ ? ?)", "(- ? ?)", "(* ? ?)", "(= ? ?)", "(< ? ?)", "(case ? @8 0 ? ?)", "(case ? @9 2 ? ?)", "(let ? ?)", "error"}
	const rest = "(def 1 $0)(def 2 $1)"
	fill := func(row string, at int, s string) string {
		left := -1
		for range at + 1 {
			left += 1 + strings.Index(row[left+1:], "?")
		}
		return strings.ReplaceAll(row[:left], "?", "1") + s + strings.ReplaceAll(row[left+1:], "?", "2")
	}
	for _, a := range rows {
		for i := range strings.Count(a, "?") {
			for _, b := range rows {
				if strings.Count(b, "?") == 0 && !agrees(t, "(def 0 (let 0 "+fill(a, i, b)+"))"+rest) {
					t.Errorf("%q in %q is none", b, a)
				}
				for j := range strings.Count(b, "?") {
					for _, c := range rows {
						in := fill(b, j, strings.ReplaceAll(c, "?", "3"))
						if s := "(def 0 (let 0 " + fill(a, i, in) + "))" + rest; !agrees(t, s) {
							t.Errorf("%q is none", s)
						}
					}
				}
			}
		}
	}
}

// grown: an expression's text by chance, in a program whose definitions have so many Params, with at most so much in it.
func grown(r *rand.Rand, params []int, levels, deep int) string {
	kind := r.IntN(9)
	if deep == 0 {
		kind = []int{api.ExprNum, api.ExprVar, api.ExprError, 8}[r.IntN(4)]
	}
	some := func(n, more int) string {
		s := ""
		for range n {
			s += " " + grown(r, params, levels+more, deep-1)
		}
		return s
	}
	tag := "@" + strconv.Itoa(r.IntN(maxTag+1))
	switch {
	case kind == api.ExprVar && levels > 0:
		return "$" + strconv.Itoa(r.IntN(levels))
	case kind == api.ExprCall:
		f := r.IntN(len(params))
		return "(f" + strconv.Itoa(f) + some(params[f], 0) + ")"
	case kind == api.ExprCon:
		return "(" + tag + some(1+r.IntN(3), 0) + ")"
	case kind == api.ExprPrim:
		return "(" + string("+-*=<"[r.IntN(5)]) + some(2, 0) + ")"
	case kind == api.ExprCase:
		bind := r.IntN(min(maxKids, maxLevels-levels) + 1)
		return "(case" + some(1, 0) + " " + tag + " " + strconv.Itoa(bind) + some(1, bind) + some(1, 0) + ")"
	case kind == api.ExprLet && levels < maxLevels:
		return "(let" + some(1, 0) + some(1, 1) + ")"
	case kind == api.ExprError:
		return "error"
	case kind == 8:
		return tag
	}
	return strconv.Itoa(r.IntN(2*maxNum+2) - maxNum - 1)
}

// made: a text by chance, most often of a program.
func made(r *rand.Rand) string {
	params := []int{0}
	for range r.IntN(maxDefs) {
		params = append(params, r.IntN(maxParams+1))
	}
	s := ""
	for _, n := range params {
		s += "(def " + strconv.Itoa(n) + " " + grown(r, params, n, r.IntN(4)) + ")\n"
	}
	return s
}

// changed: one word else, by chance, or one byte.
func changed(r *rand.Rand, s string) string {
	words := wordsOf(s)
	i := r.IntN(len(words))
	w := others[r.IntN(len(others))]
	if r.IntN(2) == 0 {
		w = words[r.IntN(len(words))]
	}
	switch r.IntN(5) {
	case 0:
		words = slices.Delete(words, i, i+1)
	case 1:
		words = slices.Insert(words, i, w)
	case 2:
		j := r.IntN(len(words))
		words[i], words[j] = words[j], words[i]
	case 3:
		at := r.IntN(len(s))
		const bytes = "() \n#@$f-0123456789+*=<casedltr\t\x00\xff"
		return s[:at] + string([]byte{bytes[r.IntN(len(bytes))]}) + s[at+1:]
	default:
		words[i] = w
	}
	return strings.Join(words, " ")
}

func TestP7_1ByChance(t *testing.T) {
	r := rand.New(rand.NewPCG(7, 1))
	count := [2]int{}
	see := func(s string) {
		if agrees(t, s) {
			count[1]++
		} else {
			count[0]++
		}
	}
	for range 6000 {
		s := made(r)
		see(s)
		for range 6 {
			see(changed(r, s))
		}
	}
	if count[0] < 5000 || count[1] < 5000 {
		t.Errorf("%d are no programs, %d are", count[0], count[1])
	}
}

// TestP7_1AnyBytes: whatever the bytes are, the call ends and does not panic (R1).
func TestP7_1AnyBytes(t *testing.T) {
	r := rand.New(rand.NewPCG(7, 2))
	letters := "(((())))  \n#defcaslt$@f0129-+*=<x"
	for range 20000 {
		b := make([]byte, r.IntN(60))
		for i := range b {
			b[i] = letters[r.IntN(len(letters))]
			if r.IntN(400) == 0 {
				b[i] = byte(r.IntN(256))
			}
		}
		agrees(t, string(b))
		agrees(t, inMain(string(b)))
	}
}

// TestP7_1Deep: brackets as deep as a text may have them, and deeper; texts far too great (R1).
func TestP7_1Deep(t *testing.T) {
	for _, open := range []string{"(", "(def 0 ", "(f0", "(f0 ", "(@1 ", "(@1(", "(+ ", "(+ 1 ", "(let ", "(let 1 ", "(case ", "(case 1 @1 0 ", "(case 1 @1 0 2 ", "(case 1 @1 3 "} {
		for _, size := range []int{9, 23, 24, 25, 100, 290, 400, 680, 1000, 2030, 1 << 20} {
			deep := strings.Repeat(open, min(size, 1<<22/len(open)))
			for _, s := range []string{deep, deep + "1", deep + strings.Repeat(")", size), deep + "1" + strings.Repeat(")", size), deep + "1" + strings.Repeat(" 1)", size), deep + "1" + strings.Repeat(" 1 1)", size)} {
				agrees(t, s)
				agrees(t, inMain(s))
			}
		}
	}
	for _, s := range []string{")", "1 ", "error ", "def ", "$0 ", "@1 ", "f0 ", "()", "(f0)", "(def 0 1)", "\x00", "\xff", "é"} {
		for _, size := range []int{500, 2000, 1 << 22} {
			refused(t, strings.Repeat(s, size))
			refused(t, inMain(strings.Repeat(s, size)))
			refused(t, inMain("(@1 "+strings.Repeat(s, size)+")"))
		}
	}
}

// span is where a list's memory lies, its spare room too.
type span struct {
	from, to uintptr
}

func spanOf[T any](list []T) span {
	var one T
	from := uintptr(unsafe.Pointer(unsafe.SliceData(list)))
	return span{from, from + uintptr(cap(list))*unsafe.Sizeof(one)}
}

// spans: of all lists of a program that have memory.
func spans(p api.Program) []span {
	out := []span{spanOf(p.Defs)}
	for _, d := range p.Defs {
		out = append(out, spanOf(d.Body))
		for _, e := range d.Body {
			if cap(e.Kids) > 0 {
				out = append(out, spanOf(e.Kids))
			}
		}
	}
	return out
}

// TestP7_1ListsAreStrangers: no two lists share memory, neither of one answer nor of two (R4).
func TestP7_1ListsAreStrangers(t *testing.T) {
	r := rand.New(rand.NewPCG(7, 3))
	for range 200 {
		s := made(r)
		want, ok := slow(s)
		if !ok {
			continue
		}
		one, _ := Parse(s)
		other, _ := Parse(s)
		all := append(spans(one), spans(other)...)
		slices.SortFunc(all, func(a, b span) int { return int(a.from) - int(b.from) })
		for i, a := range all[1:] {
			if all[i].to > a.from {
				t.Fatalf("%.300q: two lists share memory", s)
			}
		}
		spoil(one)
		if !same(other, want) {
			t.Errorf("%.300q: one answer's change is seen in the other one", s)
		}
		gives(t, s, want)
	}
}

// spoil changes all that a program's lists hold, their spare room too.
func spoil(p api.Program) {
	for i, d := range p.Defs {
		for _, e := range d.Body {
			kids := e.Kids[:cap(e.Kids)]
			for k := range kids {
				kids[k] = -9
			}
		}
		body := d.Body[:cap(d.Body)]
		for j := range body {
			body[j] = part(-9, -9, -9, -9)
		}
		p.Defs[i] = api.Def{Params: -9}
	}
	_ = append(p.Defs, api.Def{Params: -9})
}

// TestP7_1ZeroBeside: beside an error the program is the zero one, however much of it was read (R2).
func TestP7_1ZeroBeside(t *testing.T) {
	for _, s := range []string{"", "(def 0 1)(def 0", "(def 0 1)x", "(def 0 (f1))", sample + sample + ")", sample + "\x00", strings.Repeat("(def 0 1)", 9), "(def 1 1)"} {
		if got, e := Parse(s); !reflect.DeepEqual(got, api.Program{}) || e != api.ErrParseForm {
			t.Errorf("Parse(%.300q) = %+v, %d", s, got, e)
		}
	}
}

// TestP7_1NothingLeftBehind: a text that is refused, or another one, turns no later answer (R5).
func TestP7_1NothingLeftBehind(t *testing.T) {
	want, _ := slow(sample)
	for _, between := range []string{"", "(", "(def 0 (+ 1 ", "(def 0 1)(def 1 (@1 2 3", "\x00", strings.Repeat("(", maxSource+1), "(def 0 -5)"} {
		gives(t, sample, want)
		agrees(t, between)
		gives(t, sample, want)
	}
}

func FuzzP7_1(f *testing.F) {
	r := rand.New(rand.NewPCG(7, 4))
	f.Add(sample)
	for range 100 {
		s := made(r)
		f.Add(s)
		f.Add(changed(r, s))
	}
	f.Fuzz(func(t *testing.T, s string) {
		agrees(t, s)
		agrees(t, inMain(s))
	})
}

// TestP7_1FromSeveralAtOnce: each of several goroutines gets what one alone gets (R5).
func TestP7_1FromSeveralAtOnce(t *testing.T) {
	for i, s := range []string{sample, "(def 0 1)", "(def 0 (f1))", "(def 0 (let 1 (let 2 (- $0 $1))))", sample + "(def 0 1)", strings.Repeat("(", 2000)} {
		t.Run(strconv.Itoa(i), func(t *testing.T) {
			t.Parallel()
			for range 100 {
				agrees(t, s)
			}
		})
	}
}
