package name_test

import (
	"math"
	"math/rand/v2"
	"runtime"
	"slices"
	"strconv"
	"strings"
	"testing"
	"unsafe"

	"sleuth/api"
	"sleuth/name"
	"sleuth/parse"
	"sleuth/program"
	"sleuth/term"
)

// The limits as the document tells them, so that the tests do not lean on what the package leans on.
const (
	maxNum    = 32767
	maxTag    = 99
	maxKids   = 3
	maxTerm   = 1024
	maxDefs   = 8
	maxParams = 3
	maxBody   = 24
	maxLevels = 8
	maxFuel   = 400
)

// touched stands among answers for ErrNameHole.
const touched = "touched"

// others stand beside what is asked of, f1: what they are given, the first of two, the last of three, one without an end, one that fails, twice what it is given.
const others = "(def 1 $0)\n(def 2 $0)\n(def 3 $2)\n(def 1 (f5 $0))\n(def 0 error)\n(def 1 (+ $0 $0))\n"

// part: short for a part of a body.
func part(kind, num, bind int, kids ...int) api.Expr {
	return api.Expr{Kind: kind, Num: num, Bind: bind, Kids: kids}
}

func num(n int) api.Expr                    { return part(api.ExprNum, n, 0) }
func variable(n int) api.Expr               { return part(api.ExprVar, n, 0) }
func call(f int, kids ...int) api.Expr      { return part(api.ExprCall, f, 0, kids...) }
func con(tag int, kids ...int) api.Expr     { return part(api.ExprCon, tag, 0, kids...) }
func prims(op int, kids ...int) api.Expr    { return part(api.ExprPrim, op, 0, kids...) }
func cases(tag, bind, a, b, c int) api.Expr { return part(api.ExprCase, tag, bind, a, b, c) }
func let(a, b int) api.Expr                 { return part(api.ExprLet, 0, 0, a, b) }
func def(params int, b ...api.Expr) api.Def { return api.Def{Params: params, Body: b} }
func programOf(defs ...api.Def) api.Program { return api.Program{Defs: defs} }
func list(args ...string) []string          { return args }

// parsed: the program of a text that is one.
func parsed(t *testing.T, s string) api.Program {
	t.Helper()
	p, e := parse.Parse(s)
	if e != api.OK {
		t.Fatalf("Parse(%q) = %d", s, e)
	}
	return p
}

// beside: a program in which f1 is that expression, with so many parameters, and the others stand behind it.
func beside(t *testing.T, params int, s string) api.Program {
	t.Helper()
	return parsed(t, "(def 0 5)\n(def "+strconv.Itoa(params)+" "+s+")\n"+others)
}

// told: all that a program holds, each list's length and its spare room too.
func told(p api.Program) string {
	s := []byte(strconv.Itoa(len(p.Defs)) + " definitions:")
	put := func(before string, n int) {
		s = strconv.AppendInt(append(s, before...), int64(n), 10)
	}
	for _, d := range p.Defs[:cap(p.Defs)] {
		put("\n", d.Params)
		put(" of ", len(d.Body))
		for _, e := range d.Body[:cap(d.Body)] {
			put(" [", e.Kind)
			put(" ", e.Num)
			put(" ", e.Bind)
			put(" of ", len(e.Kids))
			for _, k := range e.Kids[:cap(e.Kids)] {
				put(" ", k)
			}
			s = append(s, ']')
		}
	}
	return string(s)
}

// asked: all that is handed in.
func asked(p api.Program, fun int, args []string, fuel int) string {
	return told(p) + "\nof " + strconv.Itoa(fun) + ", " + strconv.Itoa(len(args)) + " of " + strings.Join(args[:cap(args)], ", ") + ", fuel " + strconv.Itoa(fuel)
}

// codeOf: what is answered with a text, or with touched, beside it.
func codeOf(want string) (string, api.Errno) {
	if want == touched {
		return "", api.ErrNameHole
	}
	return want, api.OK
}

// holdAgainst: with each of these fuels Head answers that, if it is steps or more, and else that it runs out; all that is handed in stays as it is (R2, R4).
func holdAgainst(t *testing.T, p api.Program, fun int, args []string, steps int, want string, fuels []int) {
	t.Helper()
	before := asked(p, fun, args, 0)
	for _, fuel := range fuels {
		text, code := codeOf(want)
		if fuel < steps {
			text, code = "", api.ErrNameFuel
		}
		if got, e := name.Head(p, fun, args, fuel); got != text || e != code {
			t.Fatalf("Head(%.3000s) = %q, %d, want %q, %d, of %d steps", asked(p, fun, args, fuel), got, e, text, code, steps)
		}
	}
	if after := asked(p, fun, args, 0); after != before {
		t.Errorf("Head changed %.3000s to %.3000s", before, after)
	}
}

// eachFuel: all fuels that may be.
func eachFuel() []int {
	var out []int
	for fuel := range maxFuel + 1 {
		out = append(out, fuel)
	}
	return out
}

// around: the fuels at which an answer of so many steps turns, the least and the greatest one.
func around(steps int) []int {
	return slices.DeleteFunc([]int{0, 1, steps - 2, steps - 1, steps, steps + 1, 2 * steps, maxFuel - 1, maxFuel}, func(fuel int) bool {
		return fuel < 0 || fuel > maxFuel
	})
}

// takes: just so many steps, and then that.
func takes(t *testing.T, p api.Program, fun int, args []string, steps int, want string) {
	t.Helper()
	holdAgainst(t, p, fun, args, steps, want, eachFuel())
}

// runsOut: whatever the fuel is.
func runsOut(t *testing.T, p api.Program, fun int, args ...string) {
	t.Helper()
	takes(t, p, fun, args, maxFuel+1, "")
}

// refused: ErrNameForm, and the empty text beside it (R2).
func refused(t *testing.T, p api.Program, fun int, args []string, fuel int) {
	t.Helper()
	before := asked(p, fun, args, fuel)
	if got, e := name.Head(p, fun, args, fuel); got != "" || e != api.ErrNameForm {
		t.Errorf("Head(%.3000s) = %q, %d, want ErrNameForm", before, got, e)
	}
	if after := asked(p, fun, args, fuel); after != before {
		t.Errorf("Head changed %.3000s to %.3000s", before, after)
	}
}

// row is an expression that is f1's body, f1's arguments, how many steps it takes, and what comes of it.
type row struct {
	s     string
	args  []string
	steps int
	want  string
}

// eachTakes holds Head against rows.
func eachTakes(t *testing.T, rows []row) {
	t.Helper()
	for _, r := range rows {
		takes(t, beside(t, len(r.args), r.s), 1, r.args, r.steps, r.want)
		if len(r.args) > 0 {
			continue
		}
		// The same as main, and ahead of other levels than it has.
		takes(t, parsed(t, "(def 0 "+r.s+")\n(def 0 5)\n"+others), 0, nil, r.steps, r.want)
	}
}

func TestP9_1Numbers(t *testing.T) {
	eachTakes(t, []row{{"7", nil, 1, "7"}, {"0", nil, 1, "0"}, {"-1", nil, 1, "-1"}, {"-32768", nil, 1, "-32768"}, {"32767", nil, 1, "32767"}, {"7", list("_", "!", "@1"), 1, "7"}})
	for n := -maxNum - 1; n <= maxNum; n++ {
		s := strconv.Itoa(n)
		if got, e := name.Head(programOf(def(0, num(n))), 0, nil, 1); got != s || e != api.OK {
			t.Errorf("%d: %q, %d", n, got, e)
		}
		if got, e := name.Head(programOf(def(0, num(1)), def(1, variable(0))), 1, list(s), 1); got != s || e != api.OK {
			t.Errorf("%d, given: %q, %d", n, got, e)
		}
	}
}

// TestP9_1Given: a term at a level is no step of its own.
func TestP9_1Given(t *testing.T) {
	eachTakes(t, []row{
		{"$0", list("7"), 1, "7"}, {"$0", list("-32768"), 1, "-32768"}, {"$0", list("0"), 1, "0"},
		{"$0", list("!"), 1, "!"}, {"$0", list("_"), 1, touched},
		{"$0", list("@0"), 1, "@0"}, {"$0", list("@99"), 1, "@99"}, {"$0", list("@7(1)"), 1, "@7(_)"}, {"$0", list("@7(! 1)"), 1, "@7(_ _)"}, {"$0", list("@7(_ @1(2 3) !)"), 1, "@7(_ _ _)"},
		{"$0", list("7", "8", "9"), 1, "7"}, {"$1", list("7", "8", "9"), 1, "8"}, {"$2", list("7", "8", "9"), 1, "9"},
		{"$1", list("_", "8"), 1, "8"}, {"$0", list("8", "_"), 1, "8"}, {"$2", list("_", "!", "@1(_)"), 1, "@1(_)"}, {"$2", list("1", "2", "_"), 1, touched}, {"$1", list("_", "!", "_"), 1, "!"},
	})
}

// TestP9_1Levels: what stands at a level has levels of its own.
func TestP9_1Levels(t *testing.T) {
	eachTakes(t, []row{
		{"(f2 $0)", list("7"), 3, "7"}, {"(f2 $0)", list("!"), 3, "!"}, {"(f2 $0)", list("_"), 3, touched}, {"(f2 $0)", list("@3(_ 1)"), 3, "@3(_ _)"},
		{"(f3 $1 $0)", list("_", "7"), 3, "7"}, {"(f3 $1 $0)", list("7", "_"), 3, touched}, {"(f4 $0 $2 $1)", list("!", "7", "_"), 3, "7"},
		{"(f2 (f2 (f2 $1)))", list("6", "7"), 7, "7"}, {"(f3 (f3 $2 $1) (f3 $1 $0))", list("5", "6", "7"), 5, "7"},
		// A number, a constructor, a failure, a hole, a part with levels of its own.
		{"(let 7 $0)", nil, 3, "7"}, {"(let @7 $0)", nil, 3, "@7"}, {"(let (@7 error $0) $1)", list("_"), 3, "@7(_ _)"}, {"(let error $0)", nil, 3, "!"}, {"(let $0 $1)", list("_"), 3, touched},
		{"(let $0 $1)", list("@1(2)"), 3, "@1(_)"}, {"(let (+ $0 1) $1)", list("6"), 5, "7"}, {"(let (let 7 $0) $0)", nil, 5, "7"},
		// Not those of the place that needs it.
		{"(let 1 (let $0 (let 2 $1)))", nil, 6, "1"}, {"(let 1 (let (let 2 (let $0 $2)) (let 3 $1)))", nil, 9, "1"},
		{"(case (let 1 (@1 $0)) @1 1 $0 0)", nil, 6, "1"}, {"(case (let 1 (let 2 (@1 $0 $1))) @1 2 (- $1 $0) 0)", nil, 11, "1"},
		{"(+ (let 1 (f2 $0)) (let 2 (f2 $0)))", nil, 11, "3"}, {"(let 1 (f3 (let 2 (f3 $0 $1)) $0))", nil, 8, "1"}, {"(let 1 (f3 (let 2 (f3 $1 $0)) $0))", nil, 8, "2"},
		{"(f7 (let 3 (f7 $0)))", nil, 22, "12"}, {"(let (f7 3) (f7 $0))", nil, 19, "12"}, {"(let $0 (let (f2 $1) (f2 $2)))", list("8"), 9, "8"},
	})
	const swap = "(def 0 (f1 1 2))\n(def 2 (f2 $1 $0))\n(def 2 (f3 $1 $0))\n(def 2 (@1 $0 $1))\n(def 1 (case $0 @1 2 $1 0))\n(def 1 (case $0 @1 2 $2 0))\n"
	takes(t, parsed(t, swap), 0, nil, 4, "@1(_ _)")
	// Two swaps, and the constructor's part: what it is in the innermost call, what that is in the one ahead of it, and so on.
	takes(t, parsed(t, swap+"(def 0 (f4 (f0)))\n"), 6, nil, 13, "1")
	takes(t, parsed(t, swap+"(def 0 (f5 (f0)))\n"), 6, nil, 13, "2")
	takes(t, parsed(t, swap+"(def 0 (f5 (f1 (f0) 3)))\n"), 6, nil, 12, "3")
}

func TestP9_1Calls(t *testing.T) {
	eachTakes(t, []row{
		{"(f6)", nil, 2, "!"}, {"(f2 7)", nil, 3, "7"}, {"(f3 7 8)", nil, 3, "7"}, {"(f4 6 7 8)", nil, 3, "8"}, {"(f7 4)", nil, 6, "8"}, {"(f7 (+ 1 2))", nil, 10, "6"},
		{"(f2 @3)", nil, 3, "@3"}, {"(f2 (@3 1))", nil, 3, "@3(_)"}, {"(f2 error)", nil, 3, "!"}, {"(f2 (f6))", nil, 4, "!"}, {"(f2 (f2 (f2 7)))", nil, 7, "7"}, {"(f3 (f3 (f3 1 2) 3) 4)", nil, 7, "1"},
		// A Kid that is not needed is not evaluated.
		{"(f3 7 (f5 0))", nil, 3, "7"}, {"(f3 7 error)", nil, 3, "7"}, {"(f3 7 $0)", list("_"), 3, "7"}, {"(f4 (f5 0) error 7)", nil, 3, "7"}, {"(f4 $0 (f6) 7)", list("_"), 3, "7"},
	})
	takes(t, beside(t, 0, "(f0)"), 1, nil, 2, "5")
	takes(t, beside(t, 3, "(f0)"), 1, list("_", "_", "!"), 2, "5")
	// Of itself, down a term and down a constructor.
	down := "(case $0 @1 1 (f1 $1) $0)"
	eachTakes(t, []row{{down, list("7"), 3, "7"}, {down, list("@1(7)"), 8, "7"}, {down, list("@1(@1(7))"), 12, "7"}, {down, list("@1(@1(_))"), 10, touched}, {down, list("@1(!)"), 6, "!"}, {down, list("@1(@2(_))"), 8, "@2(_)"}})
	takes(t, beside(t, 1, down), 0, nil, 1, "5")
	count := parsed(t, "(def 0 (f1 (@1 error (@1 (f0) (@1 4 @0)))))\n(def 1 (case $0 @1 2 (+ 1 (f1 $2)) @0))\n(def 1 (case $0 @1 2 (+ $1 (f2 $2)) 0))")
	takes(t, count, 1, list("@0"), 3, "@0")
	takes(t, count, 1, list("@1(_ @0)"), 9, "!")
	takes(t, count, 2, list("@0"), 3, "0")
	takes(t, count, 2, list("@1(7 @0)"), 9, "7")
	takes(t, count, 2, list("@1(7 @1(8 @0))"), 15, "15")
	takes(t, count, 2, list("@1(7 @1(! @0))"), 10, "!")
	takes(t, count, 2, list("@1(7 @1(8 _))"), 14, touched)
	takes(t, count, 2, list("@1(_ _)"), 4, touched)
	// Of each definition, with each number of Kids.
	for f := range maxDefs {
		for params := range maxParams + 1 {
			if f == 0 && params > 0 {
				continue
			}
			p := programOf(slices.Repeat([]api.Def{def(0, num(1))}, maxDefs)...)
			p.Defs[f] = def(params, num(70+f))
			takes(t, p, f, list("_", "_", "_")[:params], 1, strconv.Itoa(70+f))
			caller := (f + 1) % maxDefs
			p.Defs[caller] = def(0, append([]api.Expr{num(5), num(6), num(7)}[:params:params], call(f, []int{0, 1, 2}[:params]...))...)
			takes(t, p, caller, nil, 2, strconv.Itoa(70+f))
			for k := range params {
				p.Defs[f] = def(params, variable(k))
				takes(t, p, caller, nil, 3, strconv.Itoa(5+k))
			}
		}
	}
}

// TestP9_1Constructors: the Kids are not evaluated, and are holes in the answer.
func TestP9_1Constructors(t *testing.T) {
	eachTakes(t, []row{
		{"@3", nil, 1, "@3"}, {"@0", nil, 1, "@0"}, {"@99", nil, 1, "@99"}, {"(@3 1)", nil, 1, "@3(_)"}, {"(@3 1 2)", nil, 1, "@3(_ _)"}, {"(@3 1 2 4)", nil, 1, "@3(_ _ _)"},
		{"(@3 error)", nil, 1, "@3(_)"}, {"(@3 (f5 0))", nil, 1, "@3(_)"}, {"(@3 $0)", list("_"), 1, "@3(_)"}, {"(@3 $0)", list("!"), 1, "@3(_)"}, {"(@3 (f6) $0 (f5 $0))", list("_"), 1, "@3(_ _ _)"},
		{"(@1 (@2 (@3 4)))", nil, 1, "@1(_)"}, {"(f2 (@3 $0 error))", list("_"), 3, "@3(_ _)"}, {"(let error (@3 $0 $0))", nil, 2, "@3(_ _)"},
	})
	for tag := range maxTag + 1 {
		s := "@" + strconv.Itoa(tag)
		for kids := range maxKids + 1 {
			want := s + []string{"", "(_)", "(_ _)", "(_ _ _)"}[kids]
			body := append(slices.Repeat([]api.Expr{call(0)}, kids), con(tag, []int{0, 1, 2}[:kids]...))
			holdAgainst(t, programOf(def(0, body...)), 0, nil, 1, want, around(1))
			holdAgainst(t, programOf(def(0, num(1)), def(1, variable(0))), 1, list(s+[]string{"", "(!)", "(@1(_) _)", "(1 2 3)"}[kids]), 1, want, around(1))
		}
	}
}

// TestP9_1Ops: each Op, of numbers in the body and of given ones, at the edges of layer 1 too.
func TestP9_1Ops(t *testing.T) {
	for _, c := range []struct{ op, a, b, want string }{
		{"+", "3", "4", "7"}, {"+", "-3", "4", "1"}, {"+", "32767", "0", "32767"}, {"+", "32767", "1", "-32768"}, {"+", "32767", "32767", "-2"}, {"+", "-32768", "-1", "32767"}, {"+", "-32768", "-32768", "0"}, {"+", "0", "0", "0"},
		{"-", "3", "4", "-1"}, {"-", "4", "3", "1"}, {"-", "-32768", "1", "32767"}, {"-", "32767", "-1", "-32768"}, {"-", "-32768", "32767", "1"}, {"-", "32767", "-32768", "-1"}, {"-", "0", "-32768", "-32768"},
		{"*", "3", "4", "12"}, {"*", "-3", "4", "-12"}, {"*", "256", "256", "0"}, {"*", "182", "181", "-32594"}, {"*", "32767", "32767", "1"}, {"*", "-32768", "-32768", "0"}, {"*", "-32768", "-1", "-32768"}, {"*", "-32768", "32767", "-32768"}, {"*", "255", "257", "-1"},
		{"=", "3", "3", "1"}, {"=", "3", "-3", "0"}, {"=", "0", "0", "1"}, {"=", "-32768", "-32768", "1"}, {"=", "-32768", "32767", "0"}, {"=", "4", "3", "0"},
		{"<", "3", "4", "1"}, {"<", "4", "3", "0"}, {"<", "3", "3", "0"}, {"<", "-1", "0", "1"}, {"<", "-32768", "32767", "1"}, {"<", "32767", "-32768", "0"}, {"<", "-32768", "-32768", "0"},
	} {
		eachTakes(t, []row{
			{"(" + c.op + " " + c.a + " " + c.b + ")", nil, 3, c.want}, {"(" + c.op + " $0 $1)", list(c.a, c.b), 3, c.want}, {"(" + c.op + " $2 $0)", list(c.b, "_", c.a), 3, c.want},
			{"(" + c.op + " (f2 " + c.a + ") (f2 $0))", list(c.b), 7, c.want}, {"(f2 (" + c.op + " " + c.a + " $0))", list(c.b), 5, c.want}, {"(let " + c.a + " (let " + c.b + " (" + c.op + " $0 $1)))", nil, 7, c.want},
		})
	}
	eachTakes(t, []row{
		{"(+ (* 2 3) (- 9 (* 2 4)))", nil, 9, "7"}, {"(= (< 1 2) (< 3 4))", nil, 7, "1"}, {"(+ (+ 32767 1) (- 0 1))", nil, 7, "32767"}, {"(- (- (- 10 1) 2) 3)", nil, 7, "4"}, {"(- 10 (- 1 (- 2 3)))", nil, 7, "8"},
	})
}

// piece is an expression, how many steps it takes, and what comes of it.
type piece struct {
	s     string
	steps int
	want  string
}

// pieces are expressions where $0 is a failure, $1 a hole, $2 7, by what comes of them: numbers, holes that are touched, failures, constructors; the last ones never end.
func pieces() (nums, holes, fails, cons []piece, endless []string) {
	nums = []piece{{"6", 1, "6"}, {"$2", 1, "7"}, {"(f2 -5)", 3, "-5"}, {"(* 2 $2)", 3, "14"}, {"(case (@1 $0 3) @1 2 $4 error)", 4, "3"}, {"(let $1 4)", 2, "4"}}
	holes = []piece{{"$1", 1, touched}, {"(f2 $1)", 3, touched}, {"(+ $1 $0)", 2, touched}, {"(+ 1 $1)", 3, touched}, {"(case $1 @1 0 1 $0)", 2, touched}, {"(let $1 $3)", 3, touched}}
	fails = []piece{{"error", 1, "!"}, {"$0", 1, "!"}, {"(f6)", 2, "!"}, {"(f2 $0)", 3, "!"}, {"(* error $1)", 2, "!"}, {"(* @1 $1)", 2, "!"}, {"(* 1 @1)", 3, "!"}, {"(case $0 @1 0 1 2)", 2, "!"}, {"(case @1 @1 0 error 2)", 3, "!"}, {"(let $0 $3)", 3, "!"}}
	cons = []piece{{"@1", 1, "@1"}, {"(@1 $0)", 1, "@1(_)"}, {"(@2 $1 (f5 0))", 1, "@2(_ _)"}, {"(f2 (@1 2 3 4))", 3, "@1(_ _ _)"}, {"(case 1 @1 0 2 @3)", 3, "@3"}}
	return nums, holes, fails, cons, []string{"(f5 0)", "(f1 $0 $1 $2)", "(+ 1 (f5 $1))", "(case (f5 0) @1 0 1 2)", "(let (f5 0) $3)"}
}

// inPieces: a row where the levels are those of pieces.
func inPieces(s string, steps int, want string) row {
	return row{s, list("!", "_", "7"), steps, want}
}

// TestP9_1Operands: the first one that is no number ends it, and the first thing that happens in one.
func TestP9_1Operands(t *testing.T) {
	nums, holes, fails, cons, endless := pieces()
	var all []string
	for _, x := range slices.Concat(nums, holes, fails, cons) {
		all = append(all, x.s)
	}
	all = append(all, endless...)
	for i, op := range []string{"+", "-", "*", "=", "<"} {
		var rows []row
		// All second ones take long: of each Op every fifth one, of OpAdd all.
		for k, second := range all {
			if k%5 != i && i > 0 {
				continue
			}
			for _, x := range slices.Concat(fails, cons) {
				rows = append(rows, inPieces("("+op+" "+x.s+" "+second+")", 1+x.steps, "!"))
			}
			for _, x := range holes {
				rows = append(rows, inPieces("("+op+" "+x.s+" "+second+")", 1+x.steps, touched))
			}
		}
		for _, a := range nums {
			for _, b := range slices.Concat(fails, cons) {
				rows = append(rows, inPieces("("+op+" "+a.s+" "+b.s+")", 1+a.steps+b.steps, "!"))
			}
			for _, b := range holes {
				rows = append(rows, inPieces("("+op+" "+a.s+" "+b.s+")", 1+a.steps+b.steps, touched))
			}
		}
		for _, r := range rows {
			holdAgainst(t, beside(t, 3, r.s), 1, r.args, r.steps, r.want, around(r.steps))
		}
		for _, x := range endless {
			for _, b := range all[:3] {
				holdAgainst(t, beside(t, 3, "("+op+" "+x+" "+b+")"), 1, list("!", "_", "7"), maxFuel+1, "", around(maxFuel))
				holdAgainst(t, beside(t, 3, "("+op+" "+b+" "+x+")"), 1, list("!", "_", "7"), maxFuel+1, "", around(maxFuel))
			}
		}
	}
}

// TestP9_1CaseOfEach: each tag and number of parts against each that is looked for, in the body and given.
func TestP9_1CaseOfEach(t *testing.T) {
	tags := []string{"0", "1", "9", "10", "98", "99"}
	for _, tag := range tags {
		for bind := range maxKids + 1 {
			for _, other := range tags {
				for kids := range maxKids + 1 {
					want := "30"
					if tag == other && kids == bind {
						want = "20"
					}
					laid := []string{"@" + other, "(@" + other + " $1)", "(@" + other + " $1 error)", "(@" + other + " $1 error (f5 0))"}[kids]
					given := "@" + other + []string{"", "(_)", "(_ !)", "(_ ! @1(_))"}[kids]
					for _, looked := range []string{laid, "$0"} {
						p := beside(t, 2, "(case "+looked+" @"+tag+" "+strconv.Itoa(bind)+" 20 30)")
						holdAgainst(t, p, 1, list(given, "_"), 3, want, around(3))
					}
				}
			}
		}
	}
}

// TestP9_1CaseParts: the parts stand at the next levels, in their row, behind what stood there; what is bound is not there in the other Kids.
func TestP9_1CaseParts(t *testing.T) {
	for params := range maxParams + 1 {
		for bind := 1; bind <= maxKids; bind++ {
			for k := range bind {
				level := "$" + strconv.Itoa(params+k)
				inner, text := "(@7 11 12 13"[:3+3*bind]+")", "@7(11 12 13"[:2+3*bind]+")"
				want := strconv.Itoa(11 + k)
				args := list("_", "_", "_")[:params]
				takes(t, beside(t, params, "(case "+inner+" @7 "+strconv.Itoa(bind)+" "+level+" error)"), 1, args, 4, want)
				takes(t, beside(t, params, "(case (f2 "+inner+") @7 "+strconv.Itoa(bind)+" (+ "+level+" 1) error)"), 1, args, 8, strconv.Itoa(12+k))
				for at := range params {
					args := list("_", "_", "_")[:params]
					args[at] = text
					takes(t, beside(t, params, "(case $"+strconv.Itoa(at)+" @7 "+strconv.Itoa(bind)+" "+level+" error)"), 1, args, 3, want)
					// What stood there ahead stands there still.
					takes(t, beside(t, params, "(case $"+strconv.Itoa(at)+" @7 "+strconv.Itoa(bind)+" $"+strconv.Itoa(at)+" error)"), 1, args, 3, "@7"+[]string{"(_)", "(_ _)", "(_ _ _)"}[bind-1])
				}
			}
		}
	}
	eachTakes(t, []row{
		{"(case (@1 2) @1 1 (case (@1 3) @1 1 (- $0 $1) 0) 0)", nil, 9, "-1"},
		{"(case (@1 2) @1 1 (case 5 @1 1 0 $0) 0)", nil, 6, "2"},
		{"(case 5 @1 3 $2 (let 4 $0))", nil, 5, "4"},
		{"(case (@1 (@2 7)) @1 1 (case $0 @2 1 $1 0) 0)", nil, 7, "7"},
		{"(case (case (@1 @2) @1 1 $0 0) @2 0 7 0)", nil, 6, "7"},
		{"(case $0 @1 1 (case $1 @2 2 (case $3 @3 0 $2 0) 0) 0)", list("@1(@2(7 @3))"), 7, "7"},
		{"(case $0 @1 1 $1 0)", list("@1(_)"), 3, touched}, {"(case $0 @1 1 $1 0)", list("@1(!)"), 3, "!"}, {"(case $0 @1 1 $1 0)", list("@1(@2(3 _))"), 3, "@2(_ _)"}, {"(case $0 @1 1 7 0)", list("@1(_)"), 3, "7"},
		{"(case (@1 (f5 0) 7) @1 2 $1 0)", nil, 4, "7"}, {"(case (@1 error 7) @1 2 $1 0)", nil, 4, "7"}, {"(case (@1 (f5 0) error) @1 2 7 0)", nil, 3, "7"},
		{"(case (@1 (+ 1 2) 7) @1 2 $0 0)", nil, 6, "3"}, {"(case (let 4 (@1 $0)) @1 1 (let $0 $1) 0)", nil, 8, "4"},
	})
}

// TestP9_1CaseOfOthers: a number leads to the third Kid, a failure and a hole end it; only one of the other Kids is evaluated.
func TestP9_1CaseOfOthers(t *testing.T) {
	nums, holes, fails, cons, endless := pieces()
	ends := slices.Concat(nums, holes, fails, cons)
	hold := func(s string, steps int, want string) {
		t.Helper()
		holdAgainst(t, beside(t, 3, s), 1, list("!", "_", "7"), steps, want, around(steps))
	}
	for i, x := range ends {
		// No case of these looks for tag 5.
		for k, third := range ends {
			want := third.want
			steps := 1 + x.steps + third.steps
			if x.want == "!" || x.want == touched {
				want, steps = x.want, 1+x.steps
			}
			if third.s != "$3" {
				hold("(case "+x.s+" @5 0 "+endless[(i+k)%4]+" "+third.s+")", steps, want)
				hold("(case "+x.s+" @5 3 (@5 $3 $4 $5) "+third.s+")", steps, want)
			}
		}
	}
	for _, c := range cons {
		tag, bind := "1", strings.Count(c.want, "_")
		tag = c.want[1:2]
		for k, second := range ends {
			// What is bound in these pieces stands at level 3, as if no part were bound ahead of it: only pieces that bind nothing may stand behind parts.
			if bind > 0 && (strings.Contains(second.s, "let") || strings.Contains(second.s, "case")) {
				continue
			}
			hold("(case "+c.s+" @"+tag+" "+strconv.Itoa(bind)+" "+second.s+" "+endless[k%4]+")", 1+c.steps+second.steps, second.want)
		}
	}
	for _, x := range endless {
		for _, s := range []string{"(case " + x + " @1 0 1 2)", "(case @1 @1 0 " + x + " 2)", "(case @1 @2 0 1 " + x + ")", "(case 3 @1 0 1 " + x + ")"} {
			runsOut(t, beside(t, 3, s), 1, "!", "_", "7")
		}
	}
}

// TestP9_1Let: the first Kid is evaluated as often as it is needed: never, once, more.
func TestP9_1Let(t *testing.T) {
	eachTakes(t, []row{
		{"(let (f5 0) 7)", nil, 2, "7"}, {"(let error 7)", nil, 2, "7"}, {"(let $0 7)", list("_"), 2, "7"}, {"(let (f5 0) (@1 $0))", nil, 2, "@1(_)"}, {"(let error error)", nil, 2, "!"}, {"(let (f6) (let $0 7))", nil, 3, "7"},
		{"(let 7 $0)", nil, 3, "7"}, {"(let (+ 3 4) $0)", nil, 5, "7"}, {"(let (f2 7) $0)", nil, 5, "7"}, {"(let error $0)", nil, 3, "!"}, {"(let $0 $1)", list("_"), 3, touched}, {"(let (+ 3 4) (case @1 @1 0 $0 $0))", nil, 7, "7"},
		{"(let (+ 3 4) (+ $0 $0))", nil, 10, "14"}, {"(let (+ 3 4) (+ $0 (+ $0 $0)))", nil, 15, "21"}, {"(let (f7 3) (* $0 $0))", nil, 16, "36"}, {"(let 1 (let (+ $0 $0) (let (+ $1 $1) (+ $2 $2))))", nil, 32, "8"},
		{"(let $0 (let $1 (let $2 (+ $3 $3))))", list("7"), 12, "14"}, {"(let 5 (let 6 (let 7 (- $1 $0))))", nil, 8, "1"}, {"(let (let 3 (+ $0 4)) (+ $0 1))", nil, 9, "8"}, {"(+ (let 1 $0) (let 2 $0))", nil, 7, "3"},
	})
}

// TestP9_1Anew: a part is evaluated each time that it is needed, wherever it stands.
func TestP9_1Anew(t *testing.T) {
	eachTakes(t, []row{
		{"(f7 (f7 1))", nil, 16, "4"}, {"(f7 (f7 (f7 1)))", nil, 36, "8"}, {"(f7 (f7 (f7 (f7 1))))", nil, 76, "16"}, {"(f7 (f7 (f7 (f7 (f7 1)))))", nil, 156, "32"}, {"(f7 (f7 (f7 (f7 (f7 (f7 1))))))", nil, 316, "64"},
		{"(case (@1 (+ 1 2)) @1 1 (+ $0 $0) 0)", nil, 11, "6"}, {"(case (@1 (f7 1)) @1 1 (f7 $0) 0)", nil, 20, "4"}, {"(f7 $0)", list("7"), 6, "14"}, {"(let (@1 (+ 1 2)) (+ (case $0 @1 1 $1 0) (case $0 @1 1 $1 0)))", nil, 16, "6"},
		{"(f3 (f7 1) (f7 (f7 1)))", nil, 8, "2"}, {"(let (f7 (f7 1)) (f3 7 $0))", nil, 4, "7"},
		// A case looks anew, too.
		{"(let (case $0 @1 1 $1 0) (- $1 $1))", list("@1(7)"), 10, "0"},
	})
	runsOut(t, beside(t, 0, "(f7 (f7 (f7 (f7 (f7 (f7 (f7 1)))))))"), 1)
}

// TestP9_1First: the first thing that happens ends all.
func TestP9_1First(t *testing.T) {
	eachTakes(t, []row{
		{"(+ $0 error)", list("_"), 2, touched}, {"(+ error $0)", list("_"), 2, "!"}, {"(+ (+ 1 $0) error)", list("_"), 4, touched}, {"(+ (+ 1 error) $0)", list("_"), 4, "!"}, {"(+ 1 (+ error $0))", list("_"), 4, "!"}, {"(+ 1 (+ $0 error))", list("_"), 4, touched},
		{"(+ $0 $1)", list("_", "!"), 2, touched}, {"(+ $1 $0)", list("_", "!"), 2, "!"}, {"(+ @1 $0)", list("_"), 2, "!"}, {"(+ $0 @1)", list("_"), 2, touched},
		{"(case error @1 0 $0 $0)", list("_"), 2, "!"}, {"(case $0 @1 0 error error)", list("_"), 2, touched}, {"(case (+ error $0) @1 0 1 2)", list("_"), 3, "!"}, {"(case (+ $0 error) @1 0 1 2)", list("_"), 3, touched},
		{"(f3 error $0)", list("_"), 3, "!"}, {"(f3 $0 error)", list("_"), 3, touched}, {"(let error (+ $1 $0))", list("_"), 4, "!"}, {"(let error (+ $0 $1))", list("_"), 3, touched}, {"(@1 $0 error)", list("_"), 1, "@1(_ _)"},
		// The fuel that would be needed behind it is not.
		{"(+ error (f5 0))", nil, 2, "!"}, {"(+ $0 (f5 0))", list("_"), 2, touched}, {"(case error @1 0 (f5 0) (f5 0))", nil, 2, "!"}, {"(case $0 @1 0 (f5 0) (f5 0))", list("_"), 2, touched},
	})
	// It runs out ahead of a failure and of a hole.
	for _, s := range []string{"(+ (f5 0) error)", "(+ (f5 0) $0)", "(case (f5 0) @1 0 error $0)", "(case (f5 $0) @1 0 error error)", "(+ 1 (+ (f5 0) $0))", "(let error (f5 $1))", "(f2 (f5 $0))"} {
		runsOut(t, beside(t, 1, s), 1, "_")
	}
}

// TestP9_1Endless: programs that go on without an end run out with each fuel.
func TestP9_1Endless(t *testing.T) {
	for _, s := range []string{
		"(def 0 (f0))", "(def 0 (+ (f0) error))", "(def 0 (+ 1 (f0)))", "(def 0 (case (f0) @1 0 1 2))", "(def 0 (case 1 @1 0 2 (f0)))", "(def 0 (case @1 @1 0 (f0) 2))", "(def 0 (let (f0) $0))", "(def 0 (let 1 (f0)))", "(def 0 (let (let (f0) $0) (let $0 $1)))",
		"(def 0 (f1)) (def 0 (f0))", "(def 0 (f1)) (def 0 (f2)) (def 0 (f1))", "(def 0 (f1 7)) (def 1 (f1 $0))", "(def 0 (f1 error)) (def 1 (f1 $0))", "(def 0 (f1 (f0))) (def 1 $0)", "(def 0 (f1 1 2 3)) (def 3 (f1 $1 $2 $0))",
		// What is not evaluated grows with each call, or what is asked of it.
		"(def 0 (f1 1)) (def 1 (f1 (+ $0 1)))", "(def 0 (f1 1)) (def 1 (f1 (@1 $0 $0 $0)))", "(def 0 (f1 1)) (def 1 (+ (f1 (+ $0 $0)) 1))", "(def 0 (f1 1 1 1)) (def 3 (f1 (@1 $0 $1 $2) (@1 $1 $2 $0) (+ $0 (* $1 $2))))",
		"(def 0 (f1 @0)) (def 1 (case $0 @0 0 (f1 (@1 $0)) (f1 (@1 $0))))", "(def 0 (f1 (@1 1))) (def 1 (case $0 @1 1 (f1 (@1 (+ $1 $1))) 0))", "(def 0 (case (f1 1) @1 2 (+ 1 (f0)) 0)) (def 1 (@1 $0 (f1 (+ $0 1))))",
		"(def 0 (f1 @0)) (def 1 (case (case $0 @0 0 (@1 $0) (@1 $0)) @1 1 (f1 $1) 0))", "(def 0 (f1 (f1 (f1 1)))) (def 1 (+ (f1 $0) (f1 $0)))",
	} {
		runsOut(t, parsed(t, s), 0)
	}
	runsOut(t, beside(t, 1, "(f1 $0)"), 1, "_")
	runsOut(t, beside(t, 1, "(f5 $0)"), 1, "!")
	runsOut(t, beside(t, 3, "(f1 $2 $0 $1)"), 1, "_", "!", strings.Repeat("@1(", 255)+"1234"+strings.Repeat(")", 255))
}

// TestP9_1Fuel: just MaxFuel steps are few enough, one more is not.
func TestP9_1Fuel(t *testing.T) {
	const six, four = "(f7 (f7 (f7 (f7 (f7 (f7 1))))))", "(f7 (f7 (f7 (f7 1))))"
	eachTakes(t, []row{
		{"(+ " + six + " (+ " + four + " (f7 1)))", nil, maxFuel, "82"}, {"(+ " + six + " (+ " + four + " (+ 1 (f2 error))))", nil, maxFuel - 1, "!"}, {"(+ " + six + " (+ " + four + " (* 2 (f2 $0))))", list("3"), maxFuel - 1, "86"},
		{"(+ " + six + " (+ " + four + " (* 2 (f2 $0))))", list("_"), maxFuel - 1, touched}, {"(+ " + six + " (+ " + four + " (f7 $0)))", list("@1"), maxFuel - 2, "!"}, {"(case (+ " + six + " (+ " + four + " (+ 1 $0))) @1 0 0 (@1 $0))", list("3"), maxFuel - 1, "@1(_)"},
		{"(+ 0 (+ " + six + " (+ " + four + " (f2 1))))", nil, maxFuel - 1, "81"}, {"(let 0 (+ " + six + " (+ " + four + " (* 1 (f2 2)))))", nil, maxFuel, "82"},
	})
	runsOut(t, beside(t, 0, "(+ "+six+" (+ "+four+" (f2 (f2 (f2 1)))))"), 1)
	runsOut(t, beside(t, 1, "(+ "+six+" (+ "+four+" (f2 (f2 (f2 $0)))))"), 1, "_")
	runsOut(t, beside(t, 1, "(+ "+six+" (+ "+four+" (f2 (f2 (f2 $0)))))"), 1, "!")
	// What needs one step has it with fuel 1, and not with fuel 0.
	for _, s := range []string{"7", "error", "@1", "(@1 2)", "$0"} {
		p := beside(t, 1, s)
		for _, arg := range []string{"_", "!", "7", "@1"} {
			if got, e := name.Head(p, 1, list(arg), 0); got != "" || e != api.ErrNameFuel {
				t.Errorf("%s of %s, fuel 0: %q, %d", s, arg, got, e)
			}
			if _, e := name.Head(p, 1, list(arg), 1); e == api.ErrNameFuel {
				t.Errorf("%s of %s runs out with fuel 1", s, arg)
			}
		}
	}
}

// moved: the parts in another row; the part that stood at i goes to row[i].
func moved(d api.Def, row []int) api.Def {
	body := make([]api.Expr, len(d.Body))
	for i, e := range d.Body {
		var kids []int
		for _, k := range e.Kids {
			kids = append(kids, row[k])
		}
		e.Kids = kids
		body[row[i]] = e
	}
	return api.Def{Params: d.Params, Body: body}
}

// mixed: each body's parts in another row by chance, each still behind its Kids.
func mixed(r *rand.Rand, p api.Program) api.Program {
	var out api.Program
	for _, d := range p.Defs {
		row := slices.Repeat([]int{-1}, len(d.Body))
		for next := range row {
			var free []int
			for at, e := range d.Body {
				if row[at] < 0 && !slices.ContainsFunc(e.Kids, func(k int) bool { return row[k] < 0 }) {
					free = append(free, at)
				}
			}
			row[free[r.IntN(len(free))]] = next
		}
		out.Defs = append(out.Defs, moved(d, row))
	}
	return out
}

// TestP9_1OtherRows: wherever the parts stand, their Kids tell what is evaluated.
func TestP9_1OtherRows(t *testing.T) {
	takes(t, programOf(def(0, num(2), num(1), prims(api.OpSub, 1, 0))), 0, nil, 3, "-1")
	takes(t, programOf(def(0, num(4), num(3), num(2), num(1), prims(api.OpAdd, 1, 0), prims(api.OpMul, 3, 2), prims(api.OpSub, 5, 4))), 0, nil, 7, "-5")
	takes(t, programOf(def(0, variable(0), num(1), let(1, 0))), 0, nil, 3, "1")
	takes(t, programOf(def(0, num(3), variable(0), num(1), con(9, 2), cases(9, 1, 3, 1, 0))), 0, nil, 4, "1")
	takes(t, programOf(def(0, num(3), num(1), num(2), call(1, 1, 2, 0)), def(3, variable(1))), 0, nil, 3, "2")
	takes(t, programOf(def(0, part(api.ExprError, 0, 0), num(1), prims(api.OpAdd, 1, 0))), 0, nil, 3, "!")
	takes(t, programOf(def(0, part(api.ExprError, 0, 0), num(1), prims(api.OpAdd, 0, 1))), 0, nil, 2, "!")
	takes(t, programOf(def(0, num(3), num(1), num(2), con(9, 1, 2, 0))), 0, nil, 1, "@9(_ _ _)")
	r := rand.New(rand.NewPCG(9, 1))
	p := beside(t, 3, "(case (let 1 (@1 (+ $0 $3) (f7 $2))) @1 2 (let (- $3 $4) (f4 $0 $1 (* $5 (f3 $5 error)))) (f5 0))")
	for range 300 {
		holdAgainst(t, mixed(r, p), 1, list("5", "_", "6"), 37, "36", around(37))
	}
}

// inLets: an expression within so many lets.
func inLets(lets int, s string) string {
	return strings.Repeat("(let error ", lets) + s + strings.Repeat(")", lets)
}

// TestP9_1Edges: the greatest number of levels, parts, definitions, parameters, Kids.
func TestP9_1Edges(t *testing.T) {
	for params := range maxParams + 1 {
		args := list("10", "11", "12")[:params]
		for lets := range maxLevels - params + 1 {
			for level := range params + lets {
				want, steps := "!", lets+2
				if level < params {
					want, steps = args[level], lets+1
				}
				takes(t, beside(t, params, inLets(lets, "$"+strconv.Itoa(level))), 1, args, steps, want)
			}
		}
	}
	const eight = "(case $0 @1 3 (case $1 @2 3 (case $4 @3 1 $L 0) 0) 0)"
	for level, want := range []string{"@1(_ _ _)", "@2(_ _ _)", "8", "9", "@3(_)", "5", "6", "7"} {
		takes(t, beside(t, 1, strings.Replace(eight, "L", strconv.Itoa(level), 1)), 1, list("@1(@2(@3(7) 5 6) 8 9)"), 7, want)
	}
	// 24 parts: 12 numbers and 11 sums of all, within a constructor, or with a last part more.
	sum, made := "1", 1
	for range 11 {
		sum, made = "(+ "+sum+" 1)", made+2
	}
	if made+1 != maxBody {
		t.Fatalf("%d parts", made+1)
	}
	takes(t, parsed(t, "(def 0 (f0))\n(def 3 (@99 "+sum+"))"), 1, list("_", "_", "_"), 1, "@99(_)")
	takes(t, parsed(t, "(def 0 (f7))\n"+strings.Repeat("(def 0 error)\n", maxDefs-2)+"(def 0 "+sum+")"), 0, nil, 24, "12")
	takes(t, parsed(t, "(def 0 error)\n"+strings.Repeat("(def 1 $0)\n", maxDefs-2)+"(def 3 "+strings.Replace(sum, "1", "$2", 1)+")"), 7, list("_", "!", "32757"), 23, "-32768")
	takes(t, parsed(t, "(def 0 (f7 1 2 3))\n"+strings.Repeat("(def 3 error)\n", maxDefs-2)+"(def 3 (@99 $2 $1 $0))"), 0, nil, 2, "@99(_ _ _)")
	takes(t, parsed(t, "(def 0 (f1))\n(def 0 (f2))\n(def 0 (f3))\n(def 0 (f4))\n(def 0 (f5))\n(def 0 (f6))\n(def 0 (f7))\n(def 0 -32768)"), 0, nil, 8, "-32768")
	for fun := range maxDefs {
		takes(t, parsed(t, "(def 0 0)\n(def 0 1)\n(def 0 2)\n(def 0 3)\n(def 0 4)\n(def 0 5)\n(def 0 6)\n(def 0 7)"), fun, nil, 1, strconv.Itoa(fun))
	}
	// One definition alone.
	takes(t, parsed(t, "(def 0 7)"), 0, nil, 1, "7")
	takes(t, parsed(t, "(def 0 7)"), 0, []string{}, 1, "7")
}

// deep: so many constructors of one part, one in another, around a core.
func deep(n int, core string) string {
	return strings.Repeat("@1(", n) + core + strings.Repeat(")", n)
}

// wide: a term of just so many bytes, each second part of which is such a one, around a core of 2 to 7 bytes.
func wide(size int) string {
	around := (size - 2) / 6
	core := []string{"@0", "@10", "1234", "12345", "-12345", "@1(100)"}[(size-2)%6]
	return strings.Repeat("@1(0 ", around) + core + strings.Repeat(")", around)
}

// TestP9_1GreatTerms: arguments of the greatest length and depth, and one byte more.
func TestP9_1GreatTerms(t *testing.T) {
	deepest := deep(255, "1234")
	if len(deepest) != maxTerm || !term.May(deepest) || !term.May(deep(255, "123")) || term.May(deep(255, "12345")) {
		t.Fatalf("%d bytes", len(deepest))
	}
	thirds := "@1(" + deep(83, "12345") + " " + deep(84, "123") + " " + deep(84, "-1") + ")"
	for _, s := range []string{deepest, deep(255, "@1"), deep(255, "_"), deep(255, "!"), thirds, wide(maxTerm), wide(maxTerm - 1), wide(maxTerm - 2)} {
		if len(s) < maxTerm-4 {
			t.Errorf("%.80s.. has only %d bytes", s, len(s))
		}
		_, tag, kids, e := term.Cut(s)
		if e != api.OK {
			t.Fatalf("%.80s.. of %d bytes is no term", s, len(s))
		}
		want := "@" + strconv.Itoa(tag) + []string{"", "(_)", "(_ _)", "(_ _ _)"}[len(kids)]
		takes(t, beside(t, 1, "$0"), 1, list(s), 1, want)
		takes(t, beside(t, 3, "$1"), 1, list(s, s, s), 1, want)
		takes(t, beside(t, 3, "(@2 $2 $1 $0)"), 1, list(s, s, s), 1, "@2(_ _ _)")
		takes(t, beside(t, 3, "(+ 1 2)"), 1, list(s, s, s), 3, "3")
		refused(t, beside(t, 3, "(+ 1 2)"), 1, list(s+" ", s, s), maxFuel)
	}
	for _, s := range []string{deep(255, "12345"), deep(256, "_"), deep(256, "1"), wide(maxTerm + 1), deep(1<<16, "_"), strings.Repeat("1", 1<<20), strings.Repeat("@1(", 1<<20)} {
		for at := range maxParams {
			args := list("7", "7", "7")
			args[at] = s
			refused(t, beside(t, 3, "7"), 1, args, maxFuel)
		}
	}
	// As far down as the fuel goes: two steps a level within a body of five cases, three where one body calls itself.
	down := "(case $0 @1 1 (case $1 @1 1 (case $2 @1 1 (case $3 @1 1 (case $4 @1 1 (f1 $5) 5) 4) 3) 2) 1)"
	p := beside(t, 1, down)
	ended := 0
	for n := 0; n < 256; n += 3 {
		for _, core := range []string{"7", "_", "!"} {
			if _, want := agrees(t, p, 1, list(deep(n, core))); want != "" {
				ended = n
			}
		}
	}
	// 144 levels take 12 * 24 + 24 steps and some: the fuel ends somewhere behind them.
	if ended < 144 || ended > 200 {
		t.Errorf("the fuel ended behind %d levels", ended)
	}
	takes(t, p, 1, list(deep(3, "7")), 9, "4")
	takes(t, p, 1, list(deep(5, "7")), 15, "1")
	takes(t, p, 1, list(deep(4, "_")), 10, touched)
}

// badTexts are texts that are no terms.
func badTexts() []string {
	return []string{"", " ", "__", "_ ", " _", "-", "-0", "00", "01", "+1", "32768", "-32769", "99999999999999999999", "1 2", "!!", "@", "@-1", "@100", "@01", "@1(", "@1()", "@1(_", "@1(_ )", "@1( _)", "@1(_  _)", "@1(_ _ _ _)", "@1(_)(_)", "@1(_))", "@1 (_)", "(_)", "a", "@1(a)", "@1(_,_)", "7\n", "@1(_\n_)", "7\x00", "\x00", "é", "\xff", "١", "$0", "error", "f1"}
}

// badFuels, and numbers of definitions that are not there.
func badNumbers() []int {
	return []int{-1, -2, -400, -1 << 31, -1 << 32, 1 << 31, 1 << 32, 1<<32 + 1, math.MinInt, math.MaxInt}
}

// TestP9_1Refused: one thing at a time, beside what else is as it may be.
func TestP9_1Refused(t *testing.T) {
	for params := range maxParams + 1 {
		p := beside(t, params, "7")
		args := list("1", "@2(_)", "!")[:params]
		takes(t, p, 1, args, 1, "7")
		for _, fun := range append(badNumbers(), maxDefs, maxDefs+1) {
			refused(t, p, fun, args, maxFuel)
		}
		for _, fuel := range append(badNumbers(), maxFuel+1, maxFuel+2, 2*maxFuel) {
			refused(t, p, 1, args, fuel)
		}
		for n := range maxParams + 3 {
			if n != params {
				refused(t, p, 1, list("1", "2", "3", "4", "5")[:n], maxFuel)
				refused(t, p, 1, list("1", "2", "3", "4", "5")[:n:n], 0)
			}
		}
		for at := range params {
			for _, s := range badTexts() {
				own := slices.Clone(args)
				own[at] = s
				refused(t, p, 1, own, maxFuel)
				refused(t, p, 1, own, 0)
				refused(t, p, 1, own, 1)
			}
		}
	}
	// Each definition has its own number of arguments.
	p := parsed(t, "(def 0 1)\n(def 1 2)\n(def 2 3)\n(def 3 4)")
	for fun := range 5 {
		for n := range 5 {
			args := list("_", "!", "7", "@1")[:n]
			if fun == n && fun < 4 {
				takes(t, p, fun, args, 1, strconv.Itoa(fun+1))
			} else {
				refused(t, p, fun, args, maxFuel)
			}
		}
	}
	for size := 1; size <= maxDefs; size++ {
		p := programOf(slices.Repeat([]api.Def{def(0, num(1))}, size)...)
		takes(t, p, size-1, nil, 1, "1")
		refused(t, p, size, nil, maxFuel)
	}
	// What may not be is refused ahead of all that would come of it (R6).
	refused(t, parsed(t, "(def 0 (f0))"), 0, nil, maxFuel+1)
	refused(t, parsed(t, "(def 0 (f0))"), 0, nil, -1)
	refused(t, parsed(t, "(def 0 1)\n(def 1 $0)"), 1, list("__"), 0)
	refused(t, parsed(t, "(def 0 1)\n(def 2 $0)"), 1, list("_", "__"), maxFuel)
}

// wrongDefs are definitions that may not be, each by one thing, with one parameter unless that is it.
func wrongDefs() []api.Def {
	long := slices.Repeat([]api.Expr{num(1)}, 1)
	for at := 1; at <= maxBody; at++ {
		long = append(long, con(1, at-1))
	}
	tooDeep := []api.Expr{variable(0)}
	for range maxLevels {
		at := len(tooDeep)
		tooDeep = append(tooDeep, num(1), let(at, at-1))
	}
	return []api.Def{
		{}, {Params: 1}, {Params: 1, Body: []api.Expr{}}, def(-1, num(1)), def(4, num(1)), def(math.MinInt, num(1)), def(math.MaxInt, num(1)), def(1, long...), def(1, tooDeep...),
		// Parts that are no Kids, twice Kids, Kids that are not there or not ahead.
		def(1, num(1), num(1)), def(1, num(1), prims(0, 0, 0)), def(1, num(1), prims(0, 0, 1)), def(1, num(1), prims(0, 0, -1)), def(1, num(1), num(1), prims(0, 0, 3)), def(1, num(1), num(1), prims(0, 0, math.MaxInt)),
		def(1, con(1, 0)), def(1, con(1, 1), con(1, 0)), def(1, num(1), con(1, 0), con(2, 0)), def(1, num(1), con(1, 0), num(1)),
		// Variables that are not there.
		def(1, variable(1)), def(1, variable(-1)), def(0, variable(0)), def(1, variable(math.MaxInt)), def(1, variable(1), num(1), let(0, 1)), def(1, num(1), variable(2), let(0, 1)), def(1, num(1), variable(2), num(1), cases(1, 1, 0, 1, 2)), def(1, num(1), num(1), variable(1), cases(1, 1, 0, 1, 2)),
		// Numbers, tags, Ops, Binds, calls, Kinds, too many Kids and too few.
		def(1, num(32768)), def(1, num(-32769)), def(1, con(100)), def(1, con(-1)), def(1, num(1), num(1), prims(5, 0, 1)), def(1, num(1), num(1), prims(-1, 0, 1)), def(1, num(1), num(1), num(1), cases(100, 0, 0, 1, 2)), def(1, num(1), num(1), num(1), cases(1, 4, 0, 1, 2)), def(1, num(1), num(1), num(1), cases(1, -1, 0, 1, 2)),
		def(1, call(8)), def(1, call(-1)), def(1, call(math.MaxInt)), def(1, call(2)), def(1, num(1), call(0, 0)), def(1, call(1)), def(1, num(1), num(1), call(1, 0, 1)),
		def(1, part(-1, 0, 0)), def(1, part(8, 0, 0)), def(1, part(math.MinInt, 0, 0)), def(1, part(api.ExprError, 1, 0)), def(1, part(api.ExprNum, 1, 1)), def(1, num(1), part(api.ExprNum, 1, 0, 0)),
		def(1, num(1), part(api.ExprPrim, 0, 0, 0)), def(1, num(1), num(1), part(api.ExprCase, 0, 0, 0, 1)), def(1, num(1), part(api.ExprLet, 0, 0, 0)), def(1, num(1), num(1), part(api.ExprLet, 1, 0, 0, 1)), def(1, num(1), num(1), num(1), num(1), con(1, 0, 1, 2, 3)),
	}
}

// TestP9_1WrongPrograms: a program that may not be, though what is asked of it is not what is wrong.
func TestP9_1WrongPrograms(t *testing.T) {
	for _, wrong := range wrongDefs() {
		for _, fuel := range []int{0, 1, maxFuel} {
			refused(t, programOf(def(0, num(1)), wrong), 0, nil, fuel)
			refused(t, programOf(def(0, num(1)), wrong), 1, list("7"), fuel)
			refused(t, programOf(def(0, num(1)), wrong, def(1, variable(0))), 2, list("7"), fuel)
			refused(t, programOf(def(0, num(1)), wrong), 1, nil, fuel)
		}
	}
	for _, p := range []api.Program{{}, {Defs: []api.Def{}}, programOf(def(1, variable(0))), programOf(def(1, num(1)), def(0, num(1))), programOf(def(0, call(1))), programOf(def(0, call(1)), def(1, num(1))), programOf(def(0, num(1), call(1, 0)), def(0, num(1))), programOf(slices.Repeat([]api.Def{def(0, num(1))}, maxDefs+1)...)} {
		for fun := -1; fun <= maxDefs+1; fun++ {
			refused(t, p, fun, nil, maxFuel)
			refused(t, p, fun, list("7"), maxFuel)
		}
	}
}

// TestP9_1Great: what is far too great, or leads round, is refused, and soon (R1).
func TestP9_1Great(t *testing.T) {
	const size = 1 << 20
	refused(t, api.Program{Defs: make([]api.Def, size)}, 0, nil, 5)
	refused(t, programOf(def(0, make([]api.Expr, size)...)), 0, nil, 5)
	refused(t, programOf(def(0, num(1), con(1, make([]int, size)...))), 0, nil, 5)
	refused(t, programOf(def(0, con(1, 1), con(1, 0))), 0, nil, 5)
	p := beside(t, 1, "$0")
	if got, e := name.Head(p, 1, slices.Repeat([]string{"7"}, size), 5); got != "" || e != api.ErrNameForm {
		t.Errorf("%d arguments: %q, %d", size, got, e)
	}
	for _, s := range []string{strings.Repeat("_", size), strings.Repeat("@1(", size) + "_" + strings.Repeat(")", size), "@1(" + strings.Repeat("_ ", size) + "_)", strings.Repeat("9", size)} {
		if got, e := name.Head(p, 1, list(s), 5); got != "" || e != api.ErrNameForm {
			t.Errorf("%.20s..: %q, %d", s, got, e)
		}
	}
}

// TestP9_1Memory: whatever a call does within its fuel, it stays far below the limits of all of it.
func TestP9_1Memory(t *testing.T) {
	terms := list(deep(255, "1234"), wide(maxTerm), "@1("+deep(83, "12345")+" "+deep(84, "123")+" "+deep(84, "-1")+")")
	for _, s := range []string{
		"(f1 (@1 $0 $1 $2) (@1 $1 $2 $0) (@1 $2 $0 $1))", "(f1 (f1 $0 $1 $2) (f1 $1 $2 $0) (f1 $2 $0 $1))", "(+ (f1 (+ $0 $0) (* $1 $2) $0) (f1 $0 $1 $2))", "(f7 (f7 (f7 (f7 (f7 (f7 (f7 $2)))))))",
		"(case $0 @1 1 (case $2 @1 3 (f1 $0 $1 $2) 0) 0)", "(case $2 @1 3 (case $3 @1 1 (case $6 @1 1 (f1 $0 $1 $2) 0) 0) 0)", "(case $0 @1 1 (f1 $3 $1 $2) 0)", "(let (f1 $0 $1 $2) (let (@1 $3 $3 $3) (let (@1 $4 $4 $4) (f1 $3 $4 $5))))", "(let (@1 $0 $1 $2) (case $3 @1 3 (case $4 @1 1 (f1 $0 $7 $3) 0) 0))",
	} {
		p := beside(t, 3, s)
		for range 10 {
			var before, after runtime.MemStats
			runtime.ReadMemStats(&before)
			name.Head(p, 1, terms, maxFuel)
			runtime.ReadMemStats(&after)
			if took := after.TotalAlloc - before.TotalAlloc; took > 1<<24 {
				t.Errorf("%s takes %d bytes", s, took)
			}
		}
	}
}

// tree is a part of a body with all that is in it, at so many levels, or a term, or what was put in for a variable.
type tree struct {
	kind, num, bind int
	there           int
	term            string
	kids            []*tree
}

// Kinds of trees beside the Exprs.
const (
	given = -1
	put   = -2
)

// grow: the tree of a body's part.
func grow(body []api.Expr, at, there int) *tree {
	e := body[at]
	x := &tree{kind: e.Kind, num: e.Num, bind: e.Bind, there: there}
	for i, k := range e.Kids {
		more := 0
		if i == 1 {
			more = map[int]int{api.ExprCase: e.Bind, api.ExprLet: 1}[e.Kind]
		}
		x.kids = append(x.kids, grow(body, k, there+more))
	}
	return x
}

// with: the tree, and in place of each variable of that level what stands there; what was put in ahead of that has no variables any more.
func (x *tree) with(level int, there *tree) *tree {
	if x.kind == put || x.kind == given {
		return x
	}
	if x.kind == api.ExprVar && x.num == level {
		return &tree{kind: put, kids: []*tree{there}}
	}
	y := *x
	y.kids = nil
	for _, k := range x.kids {
		y.kids = append(y.kids, k.with(level, there))
	}
	return &y
}

// slow evaluates by putting in: why is what ended it.
type slow struct {
	p     api.Program
	steps int
	why   string
}

// end ends the evaluation.
func (s *slow) end(why string) *tree {
	s.why = why
	return nil
}

// head: the number or the constructor that comes of a tree; nil, if it ended.
func (s *slow) head(x *tree) *tree {
	if x.kind == given {
		return s.headOfTerm(x.term)
	}
	if s.steps == maxFuel {
		return s.end("fuel")
	}
	s.steps++
	switch x.kind {
	case put:
		return s.head(x.kids[0])
	case api.ExprNum, api.ExprCon:
		return x
	case api.ExprCall:
		d := s.p.Defs[x.num]
		body := grow(d.Body, len(d.Body)-1, d.Params)
		for i, k := range x.kids {
			body = body.with(i, k)
		}
		return s.head(body)
	case api.ExprPrim:
		return s.headOfPrim(x)
	case api.ExprCase:
		a := s.head(x.kids[0])
		if a == nil {
			return nil
		}
		if a.kind == api.ExprNum || a.num != x.num || len(a.kids) != x.bind {
			return s.head(x.kids[2])
		}
		y := x.kids[1]
		for i, k := range a.kids {
			y = y.with(x.there+i, k)
		}
		return s.head(y)
	case api.ExprLet:
		return s.head(x.kids[1].with(x.there, x.kids[0]))
	}
	return s.end("!")
}

// headOfTerm: the head of a given term.
func (s *slow) headOfTerm(text string) *tree {
	kind, num, kids, _ := term.Cut(text)
	switch kind {
	case api.TermHole:
		return s.end(touched)
	case api.TermFail:
		return s.end("!")
	case api.TermNum:
		return &tree{kind: api.ExprNum, num: num}
	}
	x := &tree{kind: api.ExprCon, num: num}
	for _, k := range kids {
		x.kids = append(x.kids, &tree{kind: given, term: k})
	}
	return x
}

// headOfPrim: the head of an operation, by the words of chapter 1.
func (s *slow) headOfPrim(x *tree) *tree {
	a := s.head(x.kids[0])
	if a == nil {
		return nil
	}
	if a.kind == api.ExprCon {
		return s.end("!")
	}
	b := s.head(x.kids[1])
	if b == nil {
		return nil
	}
	if b.kind == api.ExprCon {
		return s.end("!")
	}
	n := 0
	switch {
	case x.num == api.OpAdd:
		n = a.num + b.num
	case x.num == api.OpSub:
		n = a.num - b.num
	case x.num == api.OpMul:
		n = a.num * b.num
	case x.num == api.OpEq && a.num == b.num, x.num == api.OpLess && a.num < b.num:
		n = 1
	}
	for ; n > maxNum; n -= 65536 {
	}
	for ; n < -maxNum-1; n += 65536 {
	}
	return &tree{kind: api.ExprNum, num: n}
}

// meant: how many steps are taken, and what comes of them; one step more than MaxFuel, if it runs out with that.
func meant(p api.Program, fun int, args []string) (int, string) {
	s := slow{p: p}
	d := p.Defs[fun]
	body := grow(d.Body, len(d.Body)-1, d.Params)
	for i, a := range args {
		body = body.with(i, &tree{kind: given, term: a})
	}
	x := s.head(body)
	switch {
	case x != nil && x.kind == api.ExprNum:
		return s.steps, strconv.Itoa(x.num)
	case x != nil:
		return s.steps, "@" + strconv.Itoa(x.num) + []string{"", "(_)", "(_ _)", "(_ _ _)"}[len(x.kids)]
	case s.why == "fuel":
		return maxFuel + 1, ""
	}
	return s.steps, s.why
}

// mayBeAsked: which questions are refused, whatever the fuel is; layers 2 and 6 say which terms and programs may be.
func mayBeAsked(p api.Program, fun int, args []string) bool {
	if !program.May(p) || fun < 0 || fun >= len(p.Defs) || len(args) != p.Defs[fun].Params {
		return false
	}
	for _, s := range args {
		if !term.May(s) {
			return false
		}
	}
	return true
}

// agrees holds Head against meant, with the fuels at which something may turn; what comes of it.
func agrees(t *testing.T, p api.Program, fun int, args []string) (int, string) {
	t.Helper()
	if !mayBeAsked(p, fun, args) {
		refused(t, p, fun, args, 0)
		refused(t, p, fun, args, 7)
		refused(t, p, fun, args, maxFuel)
		return 0, "refused"
	}
	steps, want := meant(p, fun, args)
	holdAgainst(t, p, fun, args, steps, want, around(steps))
	refused(t, p, fun, args, -1)
	refused(t, p, fun, args, maxFuel+1)
	return steps, want
}

// kindOf: what comes of a question, in few words.
func kindOf(want string) string {
	switch {
	case want == "" || want == "!" || want == touched || want == "refused":
		return want
	case want[0] == '@':
		return "@" + strconv.Itoa(strings.Count(want, "_"))
	}
	return "number"
}

// TestP9_1EachShortBody: all bodies of a few small parts.
func TestP9_1EachShortBody(t *testing.T) {
	count := map[string]int{}
	ask := func(body []api.Expr) {
		p := programOf(def(0, num(5)), def(1, body...), def(2, variable(1)))
		if !program.May(p) {
			agrees(t, p, 1, list("7"))
			return
		}
		for _, arg := range []string{"_", "!", "7", "@1", "@1(_)", "@1(3)"} {
			_, want := agrees(t, p, 1, list(arg))
			count[kindOf(want)]++
		}
	}
	var more func(body []api.Expr, left int)
	more = func(body []api.Expr, left int) {
		ask(body)
		if left == 0 {
			return
		}
		add := func(e api.Expr) { more(append(slices.Clone(body), e), left-1) }
		for _, e := range []api.Expr{num(-1), variable(0), variable(1), call(0), con(1), part(api.ExprError, 0, 0)} {
			add(e)
		}
		for a := range len(body) {
			add(call(1, a))
			add(con(1, a))
			for b := range len(body) {
				if a == b {
					continue
				}
				add(con(1, a, b))
				add(prims(1, a, b))
				add(let(a, b))
				add(call(2, a, b))
				for c := range len(body) {
					if c != a && c != b {
						add(cases(1, 1, a, b, c))
						add(cases(1, 0, a, b, c))
					}
				}
			}
		}
	}
	more(nil, 3)
	more([]api.Expr{variable(0), variable(0), num(7)}, 1)
	more([]api.Expr{variable(0), variable(1), num(7)}, 1)
	for _, kind := range []string{"", "!", touched, "number", "@0", "@1", "@2"} {
		if count[kind] < 20 {
			t.Errorf("%q came out %d times", kind, count[kind])
		}
	}
}

// TestP9_1RowsInRows: each row of chapter 7's table as each Kid of each row, with small parts around.
func TestP9_1RowsInRows(t *testing.T) {
	table := []string{"3", "$0", "$1", "(f0)", "(f2 ?)", "(f3 ? ?)", "(f4 ? ? ?)", "(f6)", "(f7 ?)", "@1", "(@1 ?)", "(@1 ? ?)", "(@1 ? ? ?)", "(+ ? ?)", "(- ? ?)", "(< ? ?)", "(case ? @1 0 ? ?)", "(case ? @1 1 ? ?)", "(case ? @1 2 ? ?)", "(let ? ?)", "error", "(f5 ?)"}
	small := [][]string{{"2", "$1", "4"}, {"$0", "$1", "@1"}, {"(@1 $0 2)", "$2", "error"}, {"(@1 8)", "$2", "$1"}}
	fill := func(row string, with []string, at int, in string) string {
		parts := strings.Split(row, "?")
		s := parts[0]
		for i, part := range parts[1:] {
			if i == at {
				s += in + part
			} else {
				s += with[i] + part
			}
		}
		return s
	}
	count := map[string]int{}
	ask := func(s string) {
		p, e := parse.Parse("(def 0 5)\n(def 2 " + s + ")\n" + others)
		if e != api.OK {
			return
		}
		for _, args := range [][]string{{"_", "7"}, {"@1(2)", "_"}, {"!", "@1(_ 9)"}} {
			_, want := agrees(t, p, 1, args)
			count[kindOf(want)]++
		}
	}
	for _, outer := range table {
		for i := range strings.Count(outer, "?") {
			for _, inner := range table {
				for _, with := range small {
					in := fill(inner, with, -1, "")
					for _, around := range small {
						ask(fill(outer, around, i, in))
					}
				}
			}
		}
	}
	for _, kind := range []string{"", "!", touched, "number", "@0", "@1", "@2", "@3"} {
		if count[kind] < 100 {
			t.Errorf("%q came out %d times", kind, count[kind])
		}
	}
}

// mostly: that one, or by chance another one from 0 on.
func mostly(r *rand.Rand, n, below int) int {
	if r.IntN(4) > 0 {
		return n
	}
	return r.IntN(below)
}

// grown: an expression's text by chance, in a program whose definitions have so many Params, with at most so much in it. Tag 1 with two parts is looked for, and there, more often than others.
func grown(r *rand.Rand, params []int, levels, deep int) string {
	kind := r.IntN(12)
	if deep == 0 {
		kind = []int{api.ExprNum, api.ExprVar, api.ExprVar, api.ExprVar, 8}[r.IntN(5)]
	}
	some := func(n, more int) string {
		s := ""
		for range n {
			s += " " + grown(r, params, levels+more, deep-1)
		}
		return s
	}
	tag := "@" + strconv.Itoa(mostly(r, 1, 3))
	switch {
	case kind == api.ExprVar && levels > 0:
		return "$" + strconv.Itoa(r.IntN(levels))
	case kind == api.ExprCall || kind == 9:
		f := r.IntN(len(params))
		return "(f" + strconv.Itoa(f) + some(params[f], 0) + ")"
	case kind == api.ExprCon || kind == 10:
		return "(" + tag + some(1+mostly(r, 1, maxKids), 0) + ")"
	case kind == api.ExprPrim:
		return "(" + string("+-*=<"[r.IntN(5)]) + some(2, 0) + ")"
	case kind == api.ExprCase || kind == 11:
		bind := min(mostly(r, 2, maxKids+1), maxLevels-levels)
		return "(case" + some(1, 0) + " " + tag + " " + strconv.Itoa(bind) + some(1, bind) + some(1, 0) + ")"
	case kind == api.ExprLet && levels < maxLevels:
		return "(let" + some(1, 0) + some(1, 1) + ")"
	case kind == api.ExprError && r.IntN(4) == 0:
		return "error"
	case kind == 8:
		return tag
	}
	return strconv.Itoa([]int{0, 1, 2, -7, maxNum, -maxNum - 1}[r.IntN(6)])
}

// looked: an expression's text by chance, that looks at the first parameter, and may go on with a part of it.
func looked(r *rand.Rand, params []int, own, deep int) string {
	bind := 1 + mostly(r, 1, maxKids)
	again := "(f" + strconv.Itoa(own) + " $" + strconv.Itoa(params[own]+r.IntN(bind))
	for range params[own] - 1 {
		again += " " + grown(r, params, params[own]+bind, deep-1)
	}
	op := string("+-*=<"[r.IntN(5)])
	again = []string{again + ")", "(" + op + " " + again + ") " + again + "))", "(" + op + " " + grown(r, params, params[own]+bind, 1) + " " + again + "))", "(let " + again + ") " + grown(r, params, params[own]+bind+1, deep-1) + ")"}[r.IntN(4)]
	return "(case $0 @" + strconv.Itoa(mostly(r, 1, 3)) + " " + strconv.Itoa(bind) + " " + again + " " + grown(r, params, params[own], deep) + ")"
}

// made: a program by chance.
func made(r *rand.Rand) api.Program {
	for {
		params := []int{0}
		for range r.IntN(maxDefs) {
			params = append(params, r.IntN(maxParams+1))
		}
		s := ""
		for own, n := range params {
			body := grown(r, params, n, 1+r.IntN(4))
			if n > 0 && r.IntN(2) == 0 {
				body = looked(r, params, own, 2)
			}
			s += "(def " + strconv.Itoa(n) + " " + body + ")\n"
		}
		// Parse refuses what has too many parts.
		if p, e := parse.Parse(s); e == api.OK {
			return p
		}
	}
}

// madeTerm: a term by chance, with holes if they may be.
func madeTerm(r *rand.Rand, deep int, holes bool) string {
	kind := r.IntN(9)
	if deep == 0 {
		kind = r.IntN(4)
	}
	switch {
	case kind == 0 && holes:
		return "_"
	case kind == 1 && r.IntN(2) == 0:
		return "!"
	case kind < 4:
		return strconv.Itoa([]int{0, 1, 2, -7, maxNum, -maxNum - 1}[r.IntN(6)])
	}
	var kids []string
	for range mostly(r, 2, maxKids+1) {
		kids = append(kids, madeTerm(r, deep-1, holes))
	}
	s := "@" + strconv.Itoa(mostly(r, 1, 3))
	if len(kids) > 0 {
		s += "(" + strings.Join(kids, " ") + ")"
	}
	return s
}

// madeArgs: as many terms by chance.
func madeArgs(r *rand.Rand, n int) []string {
	var args []string
	for range n {
		for {
			// What is too long is no term.
			if s := madeTerm(r, r.IntN(7), true); term.May(s) {
				args = append(args, s)
				break
			}
		}
	}
	return args
}

// TestP9_1ByChance: programs and arguments by chance, the parts in any row.
func TestP9_1ByChance(t *testing.T) {
	r := rand.New(rand.NewPCG(9, 2))
	count, long := map[string]int{}, 0
	for range 5000 {
		p := made(r)
		if r.IntN(2) == 0 {
			p = mixed(r, p)
		}
		for fun, d := range p.Defs {
			steps, want := agrees(t, p, fun, madeArgs(r, d.Params))
			count[kindOf(want)]++
			if steps > 20 && steps <= maxFuel {
				long++
			}
		}
	}
	for _, kind := range []string{"", "!", touched, "number", "@0", "@1", "@2", "@3"} {
		if count[kind] < 250 {
			t.Errorf("%q came out %d times", kind, count[kind])
		}
	}
	if long < 100 {
		t.Errorf("only %d took more than 20 steps", long)
	}
}

// TestP9_1Lists: definitions that go through lists, which take up to all steps that there are.
func TestP9_1Lists(t *testing.T) {
	r := rand.New(rand.NewPCG(9, 6))
	one := func(from ...string) string { return from[r.IntN(len(from))] }
	count, long, longer := map[string]int{}, 0, 0
	for range 3000 {
		rest := one("$2", "$2", "$2", "(f2 $2)", "(f3 $2 $1)", "(let $2 $3)", "(case $2 @1 2 $4 @0)", "(case $2 @1 2 $2 (f5 0))")
		first := one("$1", "$1", "(f2 $1)", "(f7 $1)", "(f7 (f7 $1))", "(let (f7 $1) (* $3 $3))", "3", "(case $2 @1 2 $3 0)")
		again := "(f1 " + rest + ")"
		some := one("("+one("+", "-", "*", "=", "<")+" "+first+" "+again+")", "("+one("+", "-")+" "+again+" "+first+")", "(let "+again+" (+ "+first+" $3))", "(let "+again+" (+ $3 $3))", again, "(@1 "+first+" "+again+")", "(case "+again+" @1 2 (@1 $4 $3) "+again+")")
		p := beside(t, 1, "(case $0 @1 2 "+some+" "+one("0", "0", "$0", "@0", "(f7 2)")+")")
		s := one("@0", "@0", "0", "7", "@2(1)", "_", "!")
		for range r.IntN(40) {
			s = "@1(" + one("1", "2", "3", "-7", "32767", "@1(4 @0)", strconv.Itoa(r.IntN(100)), strconv.Itoa(r.IntN(100)), one("_", "!", "5", "5")) + " " + s + ")"
		}
		steps, want := agrees(t, p, 1, list(s))
		count[kindOf(want)]++
		if steps > 20 && steps <= maxFuel {
			long++
		}
		if steps > maxFuel/2 && steps <= maxFuel {
			longer++
		}
	}
	for _, kind := range []string{"", "!", touched, "number", "@0", "@2"} {
		if count[kind] < 50 {
			t.Errorf("%q came out %d times", kind, count[kind])
		}
	}
	if long < 1000 || longer < 200 {
		t.Errorf("only %d took more than 20 steps, %d more than half of all", long, longer)
	}
}

// changed: one thing else, by chance, in memory of its own.
func changed(r *rand.Rand, p api.Program) api.Program {
	p = mixed(r, p)
	d := &p.Defs[r.IntN(len(p.Defs))]
	e := &d.Body[r.IntN(len(d.Body))]
	odd := []int{-32769, -32768, -1, 0, 1, 2, 3, 4, 5, 7, 8, 9, 99, 100, 32767, 32768, math.MinInt, math.MaxInt}
	switch r.IntN(8) {
	case 0:
		e.Kind = r.IntN(10) - 1
	case 1, 2:
		e.Num = odd[r.IntN(len(odd))]
	case 3:
		e.Bind = r.IntN(6) - 1
	case 4:
		e.Kids = append(e.Kids, r.IntN(len(d.Body)+2)-1)
	case 5:
		if len(e.Kids) > 0 {
			e.Kids[r.IntN(len(e.Kids))] = r.IntN(len(d.Body)+2) - 1
		}
	case 6:
		d.Params = r.IntN(6) - 1
	default:
		p.Defs = p.Defs[:len(p.Defs)-1]
	}
	return p
}

// TestP9_1Changed: programs with one thing else, arguments that are terms and that are none, definitions that are there and that are not.
func TestP9_1Changed(t *testing.T) {
	r := rand.New(rand.NewPCG(9, 3))
	bad := badTexts()
	count := map[string]int{}
	for range 12000 {
		p := changed(r, made(r))
		fun := r.IntN(maxDefs+2) - 1
		if len(p.Defs) > 0 && r.IntN(4) > 0 {
			fun = r.IntN(len(p.Defs))
		}
		n := r.IntN(maxParams + 2)
		if fun >= 0 && fun < len(p.Defs) && r.IntN(6) > 0 {
			n = max(p.Defs[fun].Params, 0)
		}
		args := madeArgs(r, n)
		if n > 0 && r.IntN(6) == 0 {
			args[r.IntN(n)] = bad[r.IntN(len(bad))]
		}
		_, want := agrees(t, p, fun, args)
		count[kindOf(want)]++
	}
	if count["refused"] < 2000 || count["number"] < 1000 {
		t.Errorf("%v", count)
	}
}

// filled: a term, with something else in place of its holes.
func filled(r *rand.Rand, s string) string {
	var out strings.Builder
	for _, c := range s {
		if c == '_' {
			out.WriteString(madeTerm(r, 1, false))
		} else {
			out.WriteRune(c)
		}
	}
	return out.String()
}

// TestP9_1HolesThatStandThere: if no hole is touched, the same comes of whatever stands in their places, in as many steps.
func TestP9_1HolesThatStandThere(t *testing.T) {
	r := rand.New(rand.NewPCG(9, 4))
	count := 0
	for range 3000 {
		p := made(r)
		for fun, d := range p.Defs {
			args := madeArgs(r, d.Params)
			steps, want := meant(p, fun, args)
			if want == touched || !strings.Contains(strings.Join(args, ""), "_") {
				continue
			}
			count++
			other := slices.Clone(args)
			for i := range other {
				if s := filled(r, other[i]); term.May(s) {
					other[i] = s
				}
			}
			holdAgainst(t, p, fun, args, steps, want, around(steps))
			holdAgainst(t, p, fun, other, steps, want, around(steps))
		}
	}
	if count < 1000 {
		t.Errorf("only %d", count)
	}
}

// overlap: have two texts a byte of memory in common?
func overlap(a, b string) bool {
	if a == "" || b == "" {
		return false
	}
	x, y := uintptr(unsafe.Pointer(unsafe.StringData(a))), uintptr(unsafe.Pointer(unsafe.StringData(b)))
	return x < y+uintptr(len(b)) && y < x+uintptr(len(a))
}

// TestP9_1AnswersAreNew: no answer is a piece of an argument, though it may be the same (R4).
func TestP9_1AnswersAreNew(t *testing.T) {
	p := beside(t, 1, "(case $0 @1 1 $1 $0)")
	for _, s := range []string{"7", "-32768", "!", "@2", "@2(_)", "@3(_ _ _)", "@1(7)", "@1(!)", "@1(@2(_ _))"} {
		arg := strings.Clone(s)
		got, e := name.Head(p, 1, list(arg), maxFuel)
		if e != api.OK || overlap(got, arg) {
			t.Errorf("Head of %q = %q, %d, shares memory with it: %t", s, got, e, overlap(got, arg))
		}
	}
}

// TestP9_1SpareRoom: what stands behind a list's end is not read; lists may share their memory (R4).
func TestP9_1SpareRoom(t *testing.T) {
	args := list("7", "__", "@1(")
	p := beside(t, 1, "$0")
	takes(t, p, 1, args[:1], 1, "7")
	refused(t, p, 1, args[:0], 5)
	refused(t, p, 1, args[:2], 5)
	takes(t, p, 0, args[:0], 1, "5")
	defs := []api.Def{def(0, num(1), num(2), con(3, 0, 1)), def(1, variable(0)), {Params: -1}}
	takes(t, programOf(defs[:2]...), 1, args[:1], 1, "7")
	refused(t, programOf(defs...), 1, args[:1], 1)
	refused(t, programOf(defs[:2]...), 2, nil, 1)
	body := []api.Expr{num(1), con(2, 0), call(5), num(99999)}
	takes(t, programOf(def(0, body[:1]...)), 0, nil, 1, "1")
	takes(t, programOf(def(0, body[:2]...)), 0, nil, 1, "@2(_)")
	kids := []int{0, 1, 2, 77}
	takes(t, programOf(def(0, num(3), num(1), prims(api.OpSub, kids[:2]...)), def(0, num(5), num(6), con(2, kids[:2]...))), 0, nil, 3, "2")
	takes(t, programOf(def(0, num(3), num(1), num(2), con(9, kids[:3]...))), 0, nil, 1, "@9(_ _ _)")
	// One body for all, one text for all arguments.
	shared := []api.Expr{call(1), call(2), prims(0, 0, 1)}
	takes(t, programOf(def(0, shared...), def(0, num(1)), def(0, shared[:1]...)), 0, nil, 6, "2")
	takes(t, beside(t, 3, "(f4 $0 $1 $2)"), 1, slices.Repeat(list("@1(_ 2)"), 3), 3, "@1(_ _)")
}

// TestP9_1NothingLeftBehind: a question that is refused, or another one, turns no later answer, nor leaves anything running (R5).
func TestP9_1NothingLeftBehind(t *testing.T) {
	p := beside(t, 2, "(case $0 @1 2 (- $2 (f7 $1)) (@1 $1))")
	q := beside(t, 2, "(f5 (+ $0 $1))")
	running := runtime.NumGoroutine()
	for range 50 {
		for _, between := range []func(){
			func() { runsOut(t, q, 1, "1", "2") },
			func() { refused(t, api.Program{}, 0, nil, 5) },
			func() { refused(t, p, 1, list("_", "__"), 5) },
			func() { takes(t, p, 1, list("_", "7"), 2, touched) },
			func() { takes(t, p, 1, list("@1(! 3)", "7"), 4, "!") },
		} {
			holdAgainst(t, p, 1, list("@1(9 _)", "2"), 10, "5", around(10))
			holdAgainst(t, p, 1, list("@2(9 _)", "_"), 3, "@1(_)", around(3))
			between()
		}
	}
	if now := runtime.NumGoroutine(); now > running {
		t.Errorf("%d goroutines, and %d ahead of it", now, running)
	}
	// What is changed behind a call turns no answer of it.
	args := list("@1(9 _)", "2")
	got, _ := name.Head(p, 1, args, maxFuel)
	args[0], p.Defs[1].Body[0] = "!", num(1)
	if got != "5" {
		t.Errorf("an answer turned to %q", got)
	}
}

// read: a program out of any bytes, each one a small number.
func read(data []byte) api.Program {
	take := func() int {
		if len(data) == 0 {
			return 0
		}
		n := int(int8(data[0]))
		data = data[1:]
		return n
	}
	var p api.Program
	for len(data) > 0 {
		d := api.Def{Params: take()}
		for range min(max(take(), 0), maxBody+2) {
			e := api.Expr{Kind: take(), Num: take(), Bind: take()}
			for range min(max(take(), 0), 5) {
				e.Kids = append(e.Kids, take())
			}
			d.Body = append(d.Body, e)
		}
		p.Defs = append(p.Defs, d)
	}
	return p
}

// written: bytes of which read tells p, if its numbers are small.
func written(p api.Program) []byte {
	var data []byte
	for _, d := range p.Defs {
		data = append(data, byte(d.Params), byte(len(d.Body)))
		for _, e := range d.Body {
			data = append(data, byte(e.Kind), byte(e.Num), byte(e.Bind), byte(len(e.Kids)))
			for _, k := range e.Kids {
				data = append(data, byte(k))
			}
		}
	}
	return data
}

func FuzzP9_1(f *testing.F) {
	r := rand.New(rand.NewPCG(9, 5))
	for range 200 {
		p := mixed(r, made(r))
		fun := r.IntN(len(p.Defs))
		args := append(madeArgs(r, p.Defs[fun].Params), "_", "", "__")
		f.Add(written(p), fun, p.Defs[fun].Params, args[0], args[1], args[2], r.IntN(maxFuel+1))
		f.Add(written(changed(r, p)), fun, r.IntN(4), args[0], args[1], args[2], r.IntN(maxFuel+2)-1)
	}
	f.Fuzz(func(t *testing.T, data []byte, fun, n int, a, b, c string, fuel int) {
		p, args := read(data), list(a, b, c)[:min(max(n, 0), 3)]
		_, want := agrees(t, p, fun, args)
		switch steps := 0; {
		case want == "refused" || fuel < 0 || fuel > maxFuel:
			refused(t, p, fun, args, fuel)
		default:
			steps, want = meant(p, fun, args)
			holdAgainst(t, p, fun, args, steps, want, []int{fuel})
		}
	})
}

// TestP9_1FromSeveralAtOnce: each of several goroutines gets what one alone gets, of one and the same program (R5).
func TestP9_1FromSeveralAtOnce(t *testing.T) {
	good, endless := beside(t, 2, "(case $0 @1 2 (- $2 (f7 $1)) (@1 $1))"), beside(t, 1, "(f1 (+ $0 1))")
	args := list("@1(9 _)", "2")
	for i := range 8 {
		t.Run(strconv.Itoa(i), func(t *testing.T) {
			t.Parallel()
			for range 100 {
				holdAgainst(t, good, 1, args, 10, "5", around(10))
				holdAgainst(t, good, 1, list("@1(_ 9)", "2"), 4, touched, around(4))
				holdAgainst(t, endless, 1, args[1:], maxFuel+1, "", around(maxFuel))
				refused(t, good, 1, args[:1], maxFuel)
			}
		})
	}
}
