package holds_test

import (
	"math"
	"math/rand/v2"
	"runtime"
	"slices"
	"strconv"
	"strings"
	"testing"

	"sleuth/api"
	"sleuth/below"
	"sleuth/holds"
	"sleuth/name"
	"sleuth/parse"
	"sleuth/program"
	"sleuth/term"
)

// The limits as the document tells them, so that the tests do not lean on what the package leans on.
const (
	maxNum    = 32767
	maxTag    = 99
	maxKids   = 3
	maxTerm   = 1024
	maxDefs   = 8
	maxParams = 3
	maxBody   = 24
	maxLevels = 8
	maxFuel   = 400
)

// touched stands among what comes of a question for a hole that is touched.
const touched = "touched"

// others stand beside what is asked of, f1: what they are given, the first of two, the last of three, one without an end, one that fails, twice what it is given.
const others = "(def 1 $0)\n(def 2 $0)\n(def 3 $2)\n(def 1 (f5 $0))\n(def 0 error)\n(def 1 (+ $0 $0))\n"

// part: short for a part of a body.
func part(kind, num, bind int, kids ...int) api.Expr {
	return api.Expr{Kind: kind, Num: num, Bind: bind, Kids: kids}
}

func num(n int) api.Expr                    { return part(api.ExprNum, n, 0) }
func variable(n int) api.Expr               { return part(api.ExprVar, n, 0) }
func call(f int, kids ...int) api.Expr      { return part(api.ExprCall, f, 0, kids...) }
func con(tag int, kids ...int) api.Expr     { return part(api.ExprCon, tag, 0, kids...) }
func prims(op int, kids ...int) api.Expr    { return part(api.ExprPrim, op, 0, kids...) }
func cases(tag, bind, a, b, c int) api.Expr { return part(api.ExprCase, tag, bind, a, b, c) }
func let(a, b int) api.Expr                 { return part(api.ExprLet, 0, 0, a, b) }
func def(params int, b ...api.Expr) api.Def { return api.Def{Params: params, Body: b} }
func programOf(defs ...api.Def) api.Program { return api.Program{Defs: defs} }
func list(args ...string) []string          { return args }

// parsed: the program of a text that is one.
func parsed(t *testing.T, s string) api.Program {
	t.Helper()
	p, e := parse.Parse(s)
	if e != api.OK {
		t.Fatalf("Parse(%q) = %d", s, e)
	}
	return p
}

// beside: a program in which f1 is that expression, with so many parameters, and the others stand behind it.
func beside(t *testing.T, params int, s string) api.Program {
	t.Helper()
	return parsed(t, "(def 0 5)\n(def "+strconv.Itoa(params)+" "+s+")\n"+others)
}

// told: all that a program holds, each list's length and its spare room too.
func told(p api.Program) string {
	s := []byte(strconv.Itoa(len(p.Defs)) + " definitions:")
	put := func(before string, n int) {
		s = strconv.AppendInt(append(s, before...), int64(n), 10)
	}
	for _, d := range p.Defs[:cap(p.Defs)] {
		put("\n", d.Params)
		put(" of ", len(d.Body))
		for _, e := range d.Body[:cap(d.Body)] {
			put(" [", e.Kind)
			put(" ", e.Num)
			put(" ", e.Bind)
			put(" of ", len(e.Kids))
			for _, k := range e.Kids[:cap(e.Kids)] {
				put(" ", k)
			}
			s = append(s, ']')
		}
	}
	return string(s)
}

// asked: all that is handed in.
func asked(p api.Program, n api.Node, fuel int) string {
	numbers := ""
	for _, x := range []int{n.Fun, n.Parent, len(n.Args), fuel} {
		numbers += " " + strconv.Itoa(x)
	}
	return told(p) + "\nof" + numbers + ", " + strings.Join(n.Args[:cap(n.Args)], ", ") + " = " + n.Result
}

// nodeOf: a node as main's first call.
func nodeOf(fun int, args []string, result string) api.Node {
	return api.Node{Fun: fun, Args: args, Result: result}
}

// holdAgainst: with each of these fuels Is answers that, if it is steps or more, and else that it runs out; all that is handed in stays as it is (R2, R4).
func holdAgainst(t *testing.T, p api.Program, n api.Node, steps int, want bool, fuels []int) {
	t.Helper()
	before := asked(p, n, 0)
	for _, fuel := range fuels {
		is, code := want, api.OK
		if fuel < steps {
			is, code = false, api.ErrHoldsFuel
		}
		if got, e := holds.Is(p, n, fuel); got != is || e != code {
			t.Fatalf("Is(%.3000s) = %t, %d, want %t, %d, of %d steps", asked(p, n, fuel), got, e, is, code, steps)
		}
	}
	if after := asked(p, n, 0); after != before {
		t.Errorf("Is changed %.3000s to %.3000s", before, after)
	}
}

// eachFuel: all fuels that may be.
func eachFuel() []int {
	var out []int
	for fuel := range maxFuel + 1 {
		out = append(out, fuel)
	}
	return out
}

// around: the fuels at which an answer of so many steps turns, the least and the greatest one.
func around(steps int) []int {
	return slices.DeleteFunc([]int{0, 1, steps - 2, steps - 1, steps, steps + 1, 2 * steps, maxFuel - 1, maxFuel}, func(fuel int) bool {
		return fuel < 0 || fuel > maxFuel
	})
}

// takes: just so many steps, and then that.
func takes(t *testing.T, p api.Program, n api.Node, steps int, want bool) {
	t.Helper()
	holdAgainst(t, p, n, steps, want, eachFuel())
}

// turns is takes, but for the fuels at which nothing turns.
func turns(t *testing.T, p api.Program, n api.Node, steps int, want bool) {
	t.Helper()
	holdAgainst(t, p, n, steps, want, around(steps))
}

// runsOut: whatever the fuel is.
func runsOut(t *testing.T, p api.Program, n api.Node) {
	t.Helper()
	takes(t, p, n, maxFuel+1, false)
}

// refused: ErrHoldsForm, and false beside it (R2).
func refused(t *testing.T, p api.Program, n api.Node, fuel int) {
	t.Helper()
	before := asked(p, n, fuel)
	if got, e := holds.Is(p, n, fuel); got || e != api.ErrHoldsForm {
		t.Errorf("Is(%.3000s) = %t, %d, want ErrHoldsForm", before, got, e)
	}
	if after := asked(p, n, fuel); after != before {
		t.Errorf("Is changed %.3000s to %.3000s", before, after)
	}
}

// row is an expression that is f1's body, f1's arguments, its Result, how many steps it takes, and whether it is met.
type row struct {
	s      string
	args   []string
	result string
	steps  int
	want   bool
}

// eachTakes holds Is against rows.
func eachTakes(t *testing.T, rows []row) {
	t.Helper()
	for _, r := range rows {
		takes(t, beside(t, len(r.args), r.s), nodeOf(1, r.args, r.result), r.steps, r.want)
		if len(r.args) > 0 {
			continue
		}
		// The same as main, and ahead of other levels than it has.
		takes(t, parsed(t, "(def 0 "+r.s+")\n(def 0 5)\n"+others), nodeOf(0, nil, r.result), r.steps, r.want)
	}
}

// endless stands among steps for what runs out with any fuel.
const endless = maxFuel + 1

// TestP10_1Holes: a hole is met, and nothing is evaluated, whatever the call would come to.
func TestP10_1Holes(t *testing.T) {
	for _, s := range []string{"7", "-32768", "error", "@0", "(@3 1 2 3)", "$0", "$1", "$2", "(f2 $1)", "(+ $0 $1)", "(case $0 @1 1 $1 0)", "(let $0 $3)", "(f5 0)", "(f1 $0 $1 $2)", "(f6)", "(+ 1 (f5 $1))"} {
		p := beside(t, 3, s)
		for _, args := range [][]string{{"_", "!", "7"}, {"!", "_", "@1(_)"}, {"@99(1 _ !)", "-32768", "_"}} {
			takes(t, p, nodeOf(1, args, "_"), 0, true)
		}
	}
	takes(t, parsed(t, "(def 0 (f0))"), nodeOf(0, nil, "_"), 0, true)
	takes(t, parsed(t, "(def 0 7)"), nodeOf(0, []string{}, "_"), 0, true)
	for _, c := range []struct{ s, result string }{{"(@1 (f5 0))", "@1(_)"}, {"(@1 $0)", "@1(_)"}, {"(@1 error)", "@1(_)"}, {"(@1 (f5 0) $0)", "@1(_ _)"}, {"(@1 (f5 0) $0 error)", "@1(_ _ _)"}} {
		eachTakes(t, []row{{c.s, list("_"), c.result, 1, true}})
	}
}

// piece is an expression, how many steps it takes, and what comes of it.
type piece struct {
	s     string
	steps int
	want  string
}

// pieces are expressions where $0 is a failure, $1 a hole, $2 7: numbers, holes that are touched, failures, constructors; the last ones never end.
func pieces() ([]piece, []string) {
	return []piece{
		{"6", 1, "6"}, {"$2", 1, "7"}, {"(f2 -5)", 3, "-5"}, {"(* 2 $2)", 3, "14"}, {"(case (@1 $0 3) @1 2 $4 error)", 4, "3"}, {"(let $1 4)", 2, "4"},
		{"$1", 1, touched}, {"(f2 $1)", 3, touched}, {"(+ $1 $0)", 2, touched}, {"(+ 1 $1)", 3, touched}, {"(case $1 @1 0 1 $0)", 2, touched}, {"(let $1 $3)", 3, touched},
		{"error", 1, "!"}, {"$0", 1, "!"}, {"(f6)", 2, "!"}, {"(f2 $0)", 3, "!"}, {"(* error $1)", 2, "!"}, {"(* @1 $1)", 2, "!"}, {"(* 1 @1)", 3, "!"}, {"(case $0 @1 0 1 2)", 2, "!"}, {"(let $0 $3)", 3, "!"},
		{"@1", 1, "@1"}, {"(@1 $0)", 1, "@1(_)"}, {"(@2 $1 (f5 0))", 1, "@2(_ _)"}, {"(f2 (@1 2 3 4))", 3, "@1(_ _ _)"}, {"(case 1 @1 0 2 @3)", 3, "@3"}, {"(let $1 (@1 $3 $3))", 2, "@1(_ _)"},
	}, []string{"(f5 0)", "(f5 (f2 $1))", "(+ 1 (f5 $1))", "(case (f5 0) @1 0 1 2)", "(let (f5 0) $3)"}
}

// results are what pieces are held against.
func results() []string {
	return []string{"_", "!", "6", "7", "-5", "14", "3", "4", "0", "-7", "1", "2", "@1", "@2", "@3", "@1(_)", "@2(_)", "@1(_ _)", "@2(_ _)", "@3(_ _)", "@1(_ _ _)", "@2(_ _ _)"}
}

// inPieces: what pieces are asked of.
func inPieces(result string) api.Node {
	return nodeOf(1, list("!", "_", "7"), result)
}

// heldAgainst: how many steps a piece takes that is held against one of results, and whether it is met.
func heldAgainst(x piece, result string) (int, bool) {
	if result == "_" {
		return 0, true
	}
	// What comes of a piece has holes as parts, and so have all results.
	return x.steps, x.want == result
}

// TestP10_1Kinds: each kind of Result against each thing that a call can come to.
func TestP10_1Kinds(t *testing.T) {
	ends, never := pieces()
	for _, result := range results() {
		for _, x := range ends {
			steps, want := heldAgainst(x, result)
			takes(t, beside(t, 3, x.s), inPieces(result), steps, want)
		}
		for _, s := range never {
			if result != "_" {
				runsOut(t, beside(t, 3, s), inPieces(result))
			}
		}
	}
}

// TestP10_1KindsWithin: the same within parts; what stands on the right of it counts only if it is met, and only where the Result has no hole.
func TestP10_1KindsWithin(t *testing.T) {
	ends, never := pieces()
	for _, result := range results() {
		for _, x := range ends {
			steps, want := heldAgainst(x, result)
			behind := 0
			if want {
				behind = 1
			}
			hold := func(s, r string, steps int, want bool) {
				t.Helper()
				s, r = strings.ReplaceAll(s, "X", x.s), strings.ReplaceAll(r, "R", result)
				turns(t, beside(t, 3, s), inPieces(r), steps, want)
			}
			hold("(@9 X)", "@9(R)", 1+steps, want)
			hold("(@9 X 7)", "@9(R 7)", 1+steps+behind, want)
			hold("(@9 X 7)", "@9(R 8)", 1+steps+behind, false)
			hold("(@9 X $1)", "@9(R 7)", 1+steps+behind, false)
			hold("(@9 7 X)", "@9(7 R)", 2+steps, want)
			hold("(@9 7 X)", "@9(8 R)", 2, false)
			hold("(@9 $1 X)", "@9(8 R)", 2, false)
			hold("(@9 $1 X)", "@9(! R)", 2, false)
			hold("(@9 (f5 0) X (f5 1))", "@9(_ R _)", 1+steps, want)
			hold("(@9 X 7 error)", "@9(R 7 !)", 1+steps+2*behind, want)
			hold("(@9 X (f5 0))", "@9(R _)", 1+steps, want)
			hold("(@8 (@9 X $1) 7)", "@8(@9(R _) 7)", 2+steps+behind, want)
			hold("(@8 7 (@9 $1 (@9 1 X)))", "@8(7 @9(_ @9(_ R)))", 4+steps, want)
			// Of another tag, of fewer parts and of more: no part is evaluated.
			hold("(@9 X)", "@8(R)", 1, false)
			hold("(@9 X)", "@9(R R)", 1, false)
			hold("(@9 X X)", "@9(R)", 1, false)
			hold("(@9 X X)", "@9(R R R)", 1, false)
			hold("(@9 X X X)", "@9", 1, false)
			// What is needed twice takes its steps twice.
			hold("(@9 X X)", "@9(R R)", 1+steps+behind*steps, want)
			hold("(f2 (@9 X))", "@9(R)", 3+steps, want)
			if result != "_" {
				hold("(let X (@9 $3 $3))", "@9(R R)", 3+steps+behind*(1+steps), want)
			}
			if want {
				steps = endless
			}
			hold("(@9 X (f5 0))", "@9(R 7)", min(1+steps, endless), false)
			hold("(@9 (@8 X) (f5 0))", "@9(@8(R) 7)", min(2+steps, endless), false)
			if result != "_" {
				for _, s := range never {
					hold("(@9 "+s+" X)", "@9(1 R)", endless, false)
					hold("(@9 X "+s+")", "@9(R !)", min(1+steps, endless), false)
				}
			}
		}
	}
}

// TestP10_1Parts: parts within parts, with holes among them; a part is evaluated just where the Result's part is no hole.
func TestP10_1Parts(t *testing.T) {
	eachTakes(t, []row{
		{"(@1 2)", nil, "@1(2)", 2, true}, {"(@1 2)", nil, "@1(_)", 1, true}, {"(@1 2)", nil, "@1(3)", 2, false}, {"(@1 2)", nil, "@1(!)", 2, false}, {"(@1 2)", nil, "@1(@2)", 2, false}, {"(@1 2)", nil, "@1", 1, false}, {"(@1 2)", nil, "@1(2 2)", 1, false}, {"(@1 2)", nil, "@2(2)", 1, false}, {"(@1 2)", nil, "2", 1, false}, {"(@1 2)", nil, "!", 1, false},
		{"(@1 2 3)", nil, "@1(2 3)", 3, true}, {"(@1 2 3)", nil, "@1(_ 3)", 2, true}, {"(@1 2 3)", nil, "@1(2 _)", 2, true}, {"(@1 2 3)", nil, "@1(_ _)", 1, true}, {"(@1 2 3)", nil, "@1(3 2)", 2, false}, {"(@1 2 3)", nil, "@1(2 2)", 3, false}, {"(@1 2 3)", nil, "@1(_ 2)", 2, false},
		{"(@1 2 3 4)", nil, "@1(2 3 4)", 4, true}, {"(@1 2 3 4)", nil, "@1(2 3 5)", 4, false}, {"(@1 2 3 4)", nil, "@1(2 4 5)", 3, false}, {"(@1 2 3 4)", nil, "@1(3 4 5)", 2, false}, {"(@1 2 3 4)", nil, "@1(_ 3 4)", 3, true}, {"(@1 2 3 4)", nil, "@1(2 _ 4)", 3, true}, {"(@1 2 3 4)", nil, "@1(2 3 _)", 3, true}, {"(@1 2 3 4)", nil, "@1(_ _ 4)", 2, true}, {"(@1 2 3 4)", nil, "@1(_ _ 3)", 2, false}, {"(@1 2 3 4)", nil, "@1(_ _ _)", 1, true},
		{"(@1 (@2 (@3 4)))", nil, "@1(@2(@3(4)))", 4, true}, {"(@1 (@2 (@3 4)))", nil, "@1(@2(@3(_)))", 3, true}, {"(@1 (@2 (@3 4)))", nil, "@1(@2(_))", 2, true}, {"(@1 (@2 (@3 4)))", nil, "@1(@2(@4(4)))", 3, false}, {"(@1 (@2 (@3 4)))", nil, "@1(@2(@3(5)))", 4, false}, {"(@1 (@2 (@3 4)))", nil, "@1(@2(@3(@4)))", 4, false}, {"(@1 (@2 (@3 4)))", nil, "@2(@2(@3(4)))", 1, false},
		{"(@1 (@2 3) (@2 4 5))", nil, "@1(@2(3) @2(4 5))", 6, true}, {"(@1 (@2 3) (@2 4 5))", nil, "@1(@2(4 5) @2(3))", 2, false}, {"(@1 (@2 3) (@2 4 5))", nil, "@1(@2(_) @2(_ 5))", 4, true}, {"(@1 (@2 3) (@2 4 5))", nil, "@1(_ @2(5 4))", 3, false},
		{"(@1 error @0 -32768)", nil, "@1(! @0 -32768)", 4, true}, {"(@1 error @0 -32768)", nil, "@1(! @0 -32767)", 4, false}, {"(@1 error @0 -32768)", nil, "@1(! @1 -32768)", 3, false}, {"(@1 error @0 -32768)", nil, "@1(@0 @0 -32768)", 2, false}, {"(@1 error @0 -32768)", nil, "@1(0 @0 -32768)", 2, false},
		// Of given terms: as many steps, whatever is in them.
		{"$0", list("@1(2 3)"), "@1(2 3)", 1, true}, {"$0", list("@1(2 3)"), "@1(2 4)", 1, false}, {"$0", list("@1(2 _)"), "@1(2 _)", 1, true}, {"$0", list("@1(2 _)"), "@1(2 3)", 1, false}, {"$0", list("@1(2 _)"), "@1(_ _)", 1, true}, {"$0", list("@1(_ 2)"), "@1(3 2)", 1, false}, {"$0", list("@1(_ 2)"), "@1(_ 2)", 1, true},
		{"$0", list("@1(!)"), "@1(!)", 1, true}, {"$0", list("@1(!)"), "@1(_)", 1, true}, {"$0", list("@1(!)"), "@1(0)", 1, false}, {"$0", list("@1(@2(!) @3)"), "@1(@2(!) @3)", 1, true}, {"$0", list("_"), "_", 0, true}, {"$0", list("_"), "!", 1, false}, {"$0", list("_"), "0", 1, false}, {"$0", list("!"), "!", 1, true}, {"$0", list("7"), "7", 1, true}, {"$0", list("-7"), "7", 1, false}, {"$0", list("7"), "@7", 1, false}, {"$0", list("@7"), "7", 1, false},
		{"(@1 $0 $1)", list("2", "@3(_)"), "@1(2 @3(_))", 3, true}, {"(@1 $0 $1)", list("2", "@3(_)"), "@1(2 @3(4))", 3, false}, {"(@1 $0 $1)", list("_", "3"), "@1(_ 3)", 2, true}, {"(@1 $0 $1)", list("_", "3"), "@1(2 3)", 2, false}, {"(@1 $1 $0)", list("2", "3"), "@1(2 3)", 2, false}, {"(@1 $1 $0)", list("2", "3"), "@1(3 2)", 3, true},
		{"(case $0 @1 2 (@2 $2 $1) 0)", list("@1(3 4)"), "@2(4 3)", 5, true}, {"(case $0 @1 2 (@2 $2 $1) 0)", list("@1(3 4)"), "@2(3 4)", 4, false}, {"(case $0 @1 2 (@2 $2 $1) 0)", list("@1(_ 4)"), "@2(4 _)", 4, true}, {"(case $0 @1 2 (@2 $2 $1) 0)", list("@1(_ 4)"), "@2(4 3)", 5, false}, {"(case $0 @1 2 (@2 $2 $1) 0)", list("@1"), "0", 3, true}, {"(case $0 @1 2 (@2 $2 $1) 0)", list("_"), "@2(_ _)", 2, false}, {"(case $0 @1 2 (@2 $2 $1) 0)", list("!"), "!", 2, true},
	})
}

// TestP10_1Levels: a part has the levels of the place where it stands.
func TestP10_1Levels(t *testing.T) {
	eachTakes(t, []row{
		{"(let 1 (@9 $0 (let 2 (@9 $0 $1))))", nil, "@9(1 @9(1 2))", 10, true}, {"(let 1 (@9 $0 (let 2 (@9 $0 $1))))", nil, "@9(1 @9(2 1))", 8, false}, {"(f2 (let 1 (@9 $0)))", nil, "@9(1)", 6, true}, {"(case (@1 (@2 3) 4) @1 2 (@9 $1 $0) 0)", nil, "@9(4 @2(3))", 8, true},
		{"(f3 (@9 $1 $0) 5)", list("2", "3"), "@9(3 2)", 5, true}, {"(f3 (@9 (let error $2)) 5)", list("2", "3"), "@9(!)", 6, true}, {"(f2 (@9 (f3 $0 $1) (f3 $1 $0)))", list("2", "3"), "@9(2 3)", 9, true},
		{"(@9 (f3 $0 $1) (f4 5 6 $2))", list("@8", "_", "!"), "@9(@8 !)", 7, true}, {"(@9 (f3 $0 $1) (f4 5 6 $1))", list("@8", "_", "!"), "@9(@8 !)", 7, false},
	})
	const swap = "(def 0 (f1 1 2))\n(def 2 (f2 $1 $0))\n(def 2 (f3 $1 $0))\n(def 2 (@1 $0 $1))\n"
	// Two swaps, and the constructor's parts: what they are in the innermost call, what that is in the one ahead of it, and so on.
	takes(t, parsed(t, swap), nodeOf(0, nil, "@1(_ _)"), 4, true)
	takes(t, parsed(t, swap), nodeOf(0, nil, "@1(1 _)"), 8, true)
	takes(t, parsed(t, swap), nodeOf(0, nil, "@1(1 2)"), 12, true)
	takes(t, parsed(t, swap), nodeOf(0, nil, "@1(2 1)"), 8, false)
	takes(t, parsed(t, swap), nodeOf(2, list("@7(_)", "_"), "@1(_ @7(_))"), 4, true)
	takes(t, parsed(t, swap), nodeOf(2, list("@7(_)", "_"), "@1(_ @7(0))"), 4, false)
	takes(t, parsed(t, swap), nodeOf(2, list("@7(_)", "_"), "@1(0 @7(_))"), 4, false)
}

// TestP10_1FromTheLeft: the first that is not met, or runs out, ends it.
func TestP10_1FromTheLeft(t *testing.T) {
	eachTakes(t, []row{
		// Not met, ahead of what would run out, or touch a hole, or not be met.
		{"(@1 7 (f5 0))", list("_"), "@1(8 9)", 2, false}, {"(@1 7 (f5 0))", list("_"), "@1(! 9)", 2, false}, {"(@1 error (f5 0))", list("_"), "@1(8 9)", 2, false}, {"(@1 @2 (f5 0))", list("_"), "@1(8 9)", 2, false}, {"(@1 (@2 3) (f5 0))", list("_"), "@1(@2(4) 9)", 3, false}, {"(@1 (@2 3) (f5 0))", list("_"), "@1(@2(3 4) 9)", 2, false},
		{"(@1 7 $0)", list("_"), "@1(8 9)", 2, false}, {"(@1 7 $0 (f5 0))", list("_"), "@1(8 _ 9)", 2, false}, {"(@1 (@2 7 (f5 0)) (f5 0))", list("_"), "@1(@2(8 9) 9)", 3, false},
		{"(@1 (f5 0))", list("_"), "@2(9)", 1, false}, {"(@1 (f5 0))", list("_"), "@1", 1, false}, {"(@1 (f5 0))", list("_"), "@1(9 9)", 1, false}, {"(@1 (f5 0) (f5 0))", list("_"), "@1(9)", 1, false}, {"(@1 (f5 0))", list("_"), "9", 1, false}, {"(@1 (f5 0))", list("_"), "!", 1, false},
		// What would run out stands where the Result has a hole.
		{"(@1 (f5 0) 7)", list("_"), "@1(_ 7)", 2, true}, {"(@1 (f5 0) 7)", list("_"), "@1(_ 8)", 2, false}, {"(@1 7 (f5 0))", list("_"), "@1(7 _)", 2, true}, {"(@1 (@2 (f5 0) 3) 7)", list("_"), "@1(@2(_ 3) 7)", 4, true},
		// It runs out, ahead of what is not met, or touches a hole.
		{"(@1 (f5 0) 7)", list("_"), "@1(9 8)", endless, false}, {"(@1 (f5 0) $0)", list("_"), "@1(9 8)", endless, false}, {"(@1 7 (f5 0) 7)", list("_"), "@1(7 9 8)", endless, false}, {"(@1 (@2 7 (f5 0)) 7)", list("_"), "@1(@2(7 9) 8)", endless, false}, {"(@1 (@2 7 (f5 0)) $0)", list("_"), "@1(@2(_ 9) 8)", endless, false}, {"(@1 (f5 $0) 7)", list("_"), "@1(! 8)", endless, false}, {"(@1 (+ (f5 0) $0))", list("_"), "@1(!)", endless, false},
		// A hole is touched, ahead of what would run out.
		{"(@1 $0 (f5 0))", list("_"), "@1(9 9)", 2, false}, {"(@1 $0 (f5 0))", list("_"), "@1(! 9)", 2, false}, {"(@1 $0 (f5 0))", list("_"), "@1(@1 9)", 2, false}, {"(@1 (@2 $0) (f5 0))", list("_"), "@1(@2(3) 9)", 3, false}, {"(@1 (@2 $0 (f5 0)) 7)", list("_"), "@1(@2(3 4) 7)", 3, false}, {"(@1 (+ $0 (f5 0)))", list("_"), "@1(9)", 3, false}, {"(@1 (f2 $0) (f5 0))", list("_"), "@1(9 9)", 4, false}, {"(@1 7 (case $0 @1 0 1 2) (f5 0))", list("_"), "@1(7 1 9)", 4, false},
		{"(+ $0 (f5 0))", list("_"), "9", 2, false}, {"(case $0 @1 0 (f5 0) (f5 0))", list("_"), "9", 2, false}, {"(+ error $0)", list("_"), "!", 2, true}, {"(+ $0 error)", list("_"), "!", 2, false}, {"(+ error (f5 0))", list("_"), "!", 2, true}, {"(+ (f5 0) error)", list("_"), "!", endless, false},
		// A hole that is touched is no failure and no hole, at the right of what is met too.
		{"(@1 7 $0)", list("_"), "@1(7 _)", 2, true}, {"(@1 7 $0)", list("_"), "@1(7 !)", 3, false}, {"(@1 7 $0)", list("_"), "@1(7 7)", 3, false}, {"(@1 $0 7)", list("_"), "@1(_ 7)", 2, true},
	})
}

// TestP10_1Steps: the steps of one Is count together.
func TestP10_1Steps(t *testing.T) {
	eachTakes(t, []row{
		{"(+ 3 4)", nil, "7", 3, true}, {"(@1 (+ 3 4))", nil, "@1(7)", 4, true}, {"(@1 (+ 3 4) (+ 1 2))", nil, "@1(7 3)", 7, true}, {"(@1 (+ 3 4) (+ 1 2) (* 2 2))", nil, "@1(7 3 4)", 10, true}, {"(@1 (+ 3 4) (+ 1 2) (* 2 2))", nil, "@1(7 4 4)", 7, false}, {"(@1 (+ 3 4) (+ 1 2) (* 2 2))", nil, "@1(7 _ 4)", 7, true},
		{"(@1 (@2 (+ 3 4)) (@3 (f7 1)))", nil, "@1(@2(7) @3(2))", 12, true}, {"(@1 (@2 (@3 (f7 1))))", nil, "@1(@2(@3(2)))", 9, true}, {"(@1 (f2 error) (f2 (@3 (f2 4))))", nil, "@1(! @3(4))", 10, true},
		// A part that is needed twice takes its steps twice.
		{"(let (+ 3 4) (@1 $0 $0))", nil, "@1(7 7)", 10, true}, {"(let (+ 3 4) (@1 $0 $0))", nil, "@1(7 _)", 6, true}, {"(let (+ 3 4) (@1 $0 $0))", nil, "@1(_ _)", 2, true}, {"(let (+ 3 4) (@1 $0 $0))", nil, "@1(7 8)", 10, false}, {"(let (+ 3 4) (@1 $0 $0))", nil, "@1(8 7)", 6, false}, {"(let (+ 3 4) (@1 $0 $0 $0))", nil, "@1(7 7 7)", 14, true},
		{"(let (@2 (+ 3 4)) (@1 $0 $0))", nil, "@1(@2(7) @2(7))", 12, true}, {"(let (@2 (+ 3 4)) (@1 $0 $0))", nil, "@1(@2(_) @2(7))", 9, true}, {"(let (@2 (+ 3 4)) (@1 $0 $0))", nil, "@1(@2(7) @2(8))", 12, false}, {"(let (f7 1) (@1 $0 (@2 $0 (f7 $0))))", nil, "@1(2 @2(2 4))", 35, true},
		{"(case (@1 (+ 1 2)) @1 1 (@2 $0 $0) 0)", nil, "@2(3 3)", 11, true}, {"(f2 (@1 (f7 (f7 1))))", nil, "@1(4)", 19, true}, {"(let (f7 (f7 1)) (@1 $0 $0))", nil, "@1(4 4)", 36, true},
		{"(let $0 (@1 $1 $1))", list("7"), "@1(7 7)", 6, true}, {"(let $0 (@1 $1 $1))", list("_"), "@1(7 7)", 4, false}, {"(@1 (f2 $0) (f2 (f2 $0)))", list("@2(3)"), "@1(@2(3) @2(3))", 9, true},
	})
	// Down a list: 3 steps, 6 an item, 5 a rest; the last rest is none where it is not asked for, and a step less where it touches a hole.
	p := beside(t, 1, "(case $0 @1 2 (@1 (f7 $1) (f1 $2)) @0)")
	for n := range 37 {
		given, result := "@0", "@0"
		for i := range n {
			given, result = "@1("+strconv.Itoa(i)+" "+given+")", "@1("+strconv.Itoa(2*i)+" "+result+")"
		}
		turns(t, p, nodeOf(1, list(given), result), 3+11*n, true)
		turns(t, p, nodeOf(1, list(given), strings.ReplaceAll(result, "@0", "_")), max(11*n-2, 0), true)
		turns(t, p, nodeOf(1, list(given), strings.ReplaceAll(result, "@0", "@2")), 3+11*n, false)
		turns(t, p, nodeOf(1, list(strings.ReplaceAll(given, "@0", "_")), result), 2+11*n, false)
	}
}

// TestP10_1Fuel: just MaxFuel steps are few enough, one more is not.
func TestP10_1Fuel(t *testing.T) {
	// 316 steps, 76, 16, 6.
	const six, four, two = "(f7 (f7 (f7 (f7 (f7 (f7 1))))))", "(f7 (f7 (f7 (f7 1))))", "(f7 (f7 1))"
	eachTakes(t, []row{
		{"(@1 " + six + " " + four + ")", nil, "@1(64 16)", 393, true}, {"(@1 " + six + " " + four + " (f7 1))", nil, "@1(64 16 2)", 399, true}, {"(@1 " + six + " " + four + " (f7 $0))", list("@1"), "@1(64 16 !)", 397, true}, {"(@1 " + six + " " + four + " (f7 $0))", list("_"), "@1(64 16 !)", 397, false},
		{"(@1 " + six + " " + four + " (@2 (f7 1)))", nil, "@1(64 16 @2(2))", maxFuel, true}, {"(@1 " + six + " " + four + " (@2 (f7 1)))", nil, "@1(64 16 @2(3))", maxFuel, false}, {"(@1 " + six + " " + four + " (@2 (f7 1)))", nil, "@1(64 15 @2(2))", 393, false}, {"(@1 (@2 " + six + ") (@2 " + four + ") (f2 (f2 (f2 3))))", nil, "@1(@2(64) @2(16) _)", 395, true},
		{"(@1 " + six + " " + four + " (@2 (@2 (f7 1))))", nil, "@1(64 16 @2(@2(2)))", endless, false}, {"(@1 " + six + " " + four + " (@2 (@2 (f7 1))))", nil, "@1(64 16 @2(@2(_)))", 395, true}, {"(@1 " + six + " " + four + " " + two + ")", nil, "@1(64 16 4)", endless, false}, {"(@1 " + six + " " + four + " " + two + ")", nil, "@1(64 _ 4)", 333, true}, {"(@1 " + six + " " + six + ")", nil, "@1(64 64)", endless, false}, {"(@1 " + six + " " + six + ")", nil, "@1(_ 64)", 317, true},
		{"(let " + two + " (@1 $0 $0 $0))", nil, "@1(4 4 4)", 53, true}, {"(let " + four + " (@1 $0 $0 $0))", nil, "@1(16 16 16)", 233, true}, {"(let " + six + " (@1 $0 $0))", nil, "@1(64 64)", endless, false}, {"(let " + six + " (@1 $0 $0))", nil, "@1(63 64)", 319, false},
	})
	// A step for the call and one for the constructor, as deep as it is asked for.
	p := parsed(t, "(def 0 (f1))\n(def 0 (@1 (f1)))")
	for n := range 256 {
		steps := 2 * n
		if n > maxFuel/2 {
			steps = endless
		}
		turns(t, p, nodeOf(0, nil, deep(n, "_")), steps, true)
		turns(t, p, nodeOf(1, nil, deep(n, "_")), max(min(2*n-1, endless), 0), true)
		last := min(2*n+2, endless)
		turns(t, p, nodeOf(0, nil, deep(n, "7")), last, false)
	}
	// What needs one step has it with fuel 1, and not with fuel 0.
	for _, s := range []string{"7", "error", "@1", "(@1 2)", "$0"} {
		for _, result := range []string{"7", "!", "@1", "@1(_)"} {
			for _, arg := range []string{"_", "!", "7", "@1", "@1(_)"} {
				_, want := meets(beside(t, 1, s), nodeOf(1, list(arg), result))
				takes(t, beside(t, 1, s), nodeOf(1, list(arg), result), 1, want == "met")
			}
		}
	}
}

// TestP10_1Endless: programs that go on without an end run out with each fuel, unless the Result is met, or not met, ahead of it.
func TestP10_1Endless(t *testing.T) {
	for _, s := range []string{
		"(def 0 (f0))", "(def 0 (+ (f0) error))", "(def 0 (+ 1 (f0)))", "(def 0 (case (f0) @1 0 1 2))", "(def 0 (case @1 @1 0 (f0) 2))", "(def 0 (let (f0) $0))", "(def 0 (let 1 (f0)))",
		"(def 0 (f1)) (def 0 (f0))", "(def 0 (f1 7)) (def 1 (f1 $0))", "(def 0 (f1 (f0))) (def 1 $0)", "(def 0 (f1 1 2 3)) (def 3 (f1 $1 $2 $0))",
		"(def 0 (f1 1)) (def 1 (f1 (+ $0 1)))", "(def 0 (f1 1)) (def 1 (f1 (@1 $0 $0 $0)))", "(def 0 (f1 1 1 1)) (def 3 (f1 (@1 $0 $1 $2) (@1 $1 $2 $0) (+ $0 (* $1 $2))))", "(def 0 (f1 (f1 (f1 1)))) (def 1 (+ (f1 $0) (f1 $0)))",
	} {
		p := parsed(t, s)
		for _, result := range []string{"0", "7", "!", "@0", "@1(_)", "@1(_ _ _)"} {
			runsOut(t, p, nodeOf(0, nil, result))
		}
		takes(t, p, nodeOf(0, nil, "_"), 0, true)
	}
	// Constructors without an end.
	p := parsed(t, "(def 0 (@1 7 (f0)))\n(def 1 (@1 $0 (f1 (+ $0 1))))\n(def 1 (@2 (f2 $0) $0 (f3)))\n(def 0 (f3))")
	takes(t, p, nodeOf(0, nil, "@1(7 @1(7 @1(7 _)))"), 8, true)
	takes(t, p, nodeOf(0, nil, "@1(_ @1(_ @1(7 _)))"), 6, true)
	takes(t, p, nodeOf(0, nil, "@1(7 @1(7 @1(8 @1(8 _))))"), 8, false)
	takes(t, p, nodeOf(0, nil, "@1(7 @1(7 @0))"), 7, false)
	takes(t, p, nodeOf(1, list("3"), "@1(3 @1(4 @1(5 _)))"), 17, true)
	takes(t, p, nodeOf(1, list("3"), "@1(3 @1(4 @1(4 _)))"), 17, false)
	takes(t, p, nodeOf(1, list("_"), "@1(3 _)"), 2, false)
	takes(t, p, nodeOf(1, list("_"), "@1(_ @1(_ @1(_ @1(4 _))))"), 14, false)
	takes(t, p, nodeOf(2, list("5"), "@2(@2(_ 5 _) 5 _)"), 6, true)
	runsOut(t, p, nodeOf(2, list("5"), "@2(@2(_ 5 7) 6 _)"))
	runsOut(t, p, nodeOf(2, list("5"), "@2(_ _ @1)"))
	runsOut(t, p, nodeOf(0, nil, strings.Repeat("@1(7 ", 170)+"_"+strings.Repeat(")", 170)))
	const lots = 133
	takes(t, p, nodeOf(0, nil, strings.Repeat("@1(7 ", lots)+"_"+strings.Repeat(")", lots)), 3*lots-1, true)
	runsOut(t, p, nodeOf(0, nil, strings.Repeat("@1(7 ", lots+1)+"_"+strings.Repeat(")", lots+1)))
}

// TestP10_1EachNumber: each number that may be, in the body and given, against itself and its neighbours.
func TestP10_1EachNumber(t *testing.T) {
	own, given := programOf(def(0, num(0))), programOf(def(0, num(1)), def(1, variable(0)))
	for n := -maxNum - 1; n <= maxNum; n++ {
		own.Defs[0].Body[0].Num = n
		args := list(strconv.Itoa(n))
		for other := n - 1; other <= n+1; other++ {
			result, code := strconv.Itoa(other), api.OK
			if other < -maxNum-1 || other > maxNum {
				code = api.ErrHoldsForm
			}
			if is, e := holds.Is(own, nodeOf(0, nil, result), 1); is != (n == other) || e != code {
				t.Errorf("%d against %s: %t, %d", n, result, is, e)
			}
			if is, e := holds.Is(given, nodeOf(1, args, result), 1); is != (n == other) || e != code {
				t.Errorf("%d, given, against %s: %t, %d", n, result, is, e)
			}
		}
	}
	edges := []int{-maxNum - 1, -maxNum, -256, -10, -1, 0, 1, 10, 255, 256, maxNum - 1, maxNum}
	for _, n := range edges {
		for _, other := range edges {
			s, result := strconv.Itoa(n), strconv.Itoa(other)
			eachTakes(t, []row{{s, nil, result, 1, n == other}, {"(@1 " + s + ")", nil, "@1(" + result + ")", 2, n == other}, {"(+ $0 0)", list(s), result, 3, n == other}, {"(@1 (@1 $0))", list(s), "@1(@1(" + result + "))", 3, n == other}})
		}
	}
}

// TestP10_1EachConstructor: each tag and number of parts against itself and others.
func TestP10_1EachConstructor(t *testing.T) {
	for tag := range maxTag + 1 {
		for kids := range maxKids + 1 {
			body := append(slices.Repeat([]api.Expr{call(0)}, kids), con(tag, []int{0, 1, 2}[:kids]...))
			for _, other := range []int{tag, tag - 1, tag + 1, maxTag - tag, tag / 10, tag * 10} {
				for others := range maxKids + 1 {
					result := "@" + strconv.Itoa(other) + []string{"", "(_)", "(_ _)", "(_ _ _)"}[others]
					given := "@" + strconv.Itoa(tag) + []string{"", "(!)", "(@1(_) _)", "(1 2 3)"}[kids]
					if other < 0 || other > maxTag {
						refused(t, programOf(def(0, body...)), nodeOf(0, nil, result), 1)
						continue
					}
					want := tag == other && kids == others
					turns(t, programOf(def(0, body...)), nodeOf(0, nil, result), 1, want)
					turns(t, programOf(def(0, num(1)), def(1, variable(0))), nodeOf(1, list(given), result), 1, want)
				}
			}
		}
	}
}

// TestP10_1Parent: any Parent will do, also one that no tree could have.
func TestP10_1Parent(t *testing.T) {
	p := beside(t, 2, "(@1 $0 (f7 $1))")
	for _, parent := range append(badNumbers(), 0, 1, 2, 3, 7, 511, 512, 513) {
		for _, c := range []struct {
			args   []string
			result string
			steps  int
			want   bool
		}{{list("5", "6"), "@1(5 12)", 8, true}, {list("5", "6"), "@1(5 13)", 8, false}, {list("5", "_"), "@1(_ 12)", 5, false}, {list("5", "_"), "_", 0, true}} {
			n := nodeOf(1, c.args, c.result)
			n.Parent = parent
			turns(t, p, n, c.steps, c.want)
		}
		n := nodeOf(1, list("5", "6"), "__")
		n.Parent = parent
		refused(t, p, n, maxFuel)
	}
}

// TestP10_1Edges: the greatest number of levels, parts, definitions, parameters, Kids.
func TestP10_1Edges(t *testing.T) {
	const eight = "(case $0 @1 3 (case $1 @2 3 (case $4 @3 1 (@9 $7 $L) 0) 0) 0)"
	for level, want := range []string{"@1(@2(@3(7) 5 6) 8 9)", "@2(@3(7) 5 6)", "8", "9", "@3(7)", "5", "6", "7"} {
		p := beside(t, 1, strings.Replace(eight, "L", strconv.Itoa(level), 1))
		args := list("@1(@2(@3(7) 5 6) 8 9)")
		takes(t, p, nodeOf(1, args, "@9(7 "+want+")"), 9, true)
		takes(t, p, nodeOf(1, args, "@9(7 @9)"), 9, false)
		takes(t, p, nodeOf(1, args, "@9(_ "+want+")"), 8, true)
	}
	// 24 parts: 12 numbers and 11 sums of all, within a constructor, or with a last part more.
	sum, parts := "1", 1
	for range 11 {
		sum, parts = "(+ "+sum+" 1)", parts+2
	}
	if parts+1 != maxBody {
		t.Fatalf("%d parts", parts+1)
	}
	takes(t, parsed(t, "(def 0 (f0))\n(def 3 (@99 "+sum+"))"), nodeOf(1, list("_", "_", "_"), "@99(12)"), 24, true)
	takes(t, parsed(t, "(def 0 (f7))\n"+strings.Repeat("(def 0 error)\n", maxDefs-2)+"(def 0 "+sum+")"), nodeOf(0, nil, "12"), 24, true)
	takes(t, parsed(t, "(def 0 error)\n"+strings.Repeat("(def 1 $0)\n", maxDefs-2)+"(def 3 "+strings.Replace(sum, "1", "$2", 1)+")"), nodeOf(7, list("_", "!", "32757"), "-32768"), 23, true)
	takes(t, parsed(t, "(def 0 (f7 1 2 3))\n"+strings.Repeat("(def 3 error)\n", maxDefs-2)+"(def 3 (@99 $2 $1 $0))"), nodeOf(0, nil, "@99(3 2 1)"), 8, true)
	takes(t, parsed(t, "(def 0 (f1))\n(def 0 (f2))\n(def 0 (f3))\n(def 0 (f4))\n(def 0 (f5))\n(def 0 (f6))\n(def 0 (f7))\n(def 0 -32768)"), nodeOf(0, nil, "-32768"), 8, true)
	for fun := range maxDefs {
		p := parsed(t, "(def 0 0)\n(def 0 1)\n(def 0 2)\n(def 0 3)\n(def 0 4)\n(def 0 5)\n(def 0 6)\n(def 0 7)")
		takes(t, p, nodeOf(fun, nil, strconv.Itoa(fun)), 1, true)
		takes(t, p, nodeOf(fun, nil, strconv.Itoa(7-fun)), 1, false)
	}
	// One definition alone.
	takes(t, parsed(t, "(def 0 7)"), nodeOf(0, nil, "7"), 1, true)
	takes(t, parsed(t, "(def 0 7)"), nodeOf(0, []string{}, "8"), 1, false)
	// The empty node asks whether main comes to a text that is no term.
	refused(t, parsed(t, "(def 0 7)"), api.Node{}, maxFuel)
}

// deep: so many constructors of one part, one in another, around a core.
func deep(n int, core string) string {
	return strings.Repeat("@1(", n) + core + strings.Repeat(")", n)
}

// wide: a term of just so many bytes, each second part of which is such a one, around a core of 2 to 7 bytes.
func wide(size int) string {
	around := (size - 2) / 6
	core := []string{"@0", "@10", "1234", "12345", "-12345", "@1(100)"}[(size-2)%6]
	return strings.Repeat("@1(0 ", around) + core + strings.Repeat(")", around)
}

// TestP10_1GreatTerms: arguments and Results of the greatest length and depth, and one byte more.
func TestP10_1GreatTerms(t *testing.T) {
	deepest := deep(255, "1234")
	if len(deepest) != maxTerm || !term.May(deepest) || !term.May(deep(255, "123")) || term.May(deep(255, "12345")) {
		t.Fatalf("%d bytes", len(deepest))
	}
	thirds := "@1(" + deep(83, "12345") + " " + deep(84, "123") + " " + deep(84, "-1") + ")"
	great := []string{deepest, deep(255, "@1"), deep(255, "_"), deep(255, "!"), deep(255, "-1"), thirds, wide(maxTerm), wide(maxTerm - 1), wide(maxTerm - 2), wide(maxTerm - 3), wide(maxTerm - 4), wide(maxTerm - 5)}
	for i, s := range great {
		if len(s) < maxTerm-5 || !term.May(s) {
			t.Fatalf("%.80s.. has only %d bytes", s, len(s))
		}
		turns(t, beside(t, 1, "$0"), nodeOf(1, list(s), s), 1, true)
		turns(t, beside(t, 3, "(f4 $0 $1 $1)"), nodeOf(1, list("_", s, "!"), s), 3, true)
		turns(t, beside(t, 3, "(@2 $2 $1 $0)"), nodeOf(1, list(s, s, s), "@2(_ _ _)"), 1, true)
		turns(t, beside(t, 3, "(@2 $2 $1 $0)"), nodeOf(1, list(s, s, s), "@2(_ _ "+deep(10, "_")+")"), 2, i < 5)
		_, _, kids, _ := term.Cut(s)
		turns(t, beside(t, 1, "(case $0 @1 "+strconv.Itoa(len(kids))+" $1 0)"), nodeOf(1, list(s), kids[0]), 3, true)
		for k, other := range great {
			// What stands there is evaluated in one step, whatever is in it; those with holes within are met by others that have more there.
			is, e := below.Is(other, s)
			if e != api.OK {
				t.Fatalf("%d, %d: %d", i, k, e)
			}
			turns(t, beside(t, 1, "$0"), nodeOf(1, list(s), other), 1, is)
		}
		refused(t, beside(t, 1, "$0"), nodeOf(1, list(s+" "), s), maxFuel)
		refused(t, beside(t, 1, "$0"), nodeOf(1, list(s), s+" "), maxFuel)
		refused(t, beside(t, 1, "$0"), nodeOf(1, list(s), "@1(0 "+s+")"), maxFuel)
	}
	for _, s := range []string{deep(255, "12345"), deep(256, "_"), deep(256, "1"), wide(maxTerm + 1), deep(1<<16, "_"), strings.Repeat("1", 1<<20), strings.Repeat("@1(", 1<<20)} {
		for at := range maxParams {
			args := list("7", "7", "7")
			args[at] = s
			refused(t, beside(t, 3, "7"), nodeOf(1, args, "7"), maxFuel)
		}
		refused(t, beside(t, 3, "7"), nodeOf(1, list("7", "7", "7"), s), maxFuel)
	}
	// A Result may be as deep as a term, though what it is held against is longer, or goes on without an end.
	turns(t, beside(t, 1, "(@1 $0)"), nodeOf(1, list(deep(255, "1234")), deep(255, "_")), 2, true)
	turns(t, beside(t, 1, "(@1 $0)"), nodeOf(1, list(deep(255, "1234")), deep(255, "@1")), 2, false)
	turns(t, beside(t, 1, "(@1 $0)"), nodeOf(1, list(deep(254, "1234")), deepest), 2, true)
	turns(t, beside(t, 1, "(@1 $0)"), nodeOf(1, list(deep(254, "1235")), deepest), 2, false)
	turns(t, beside(t, 1, "(@1 $0 $0 $0)"), nodeOf(1, list(deep(83, "_")), "@1("+deep(83, "_")+" "+deep(83, "_")+" "+deep(83, "_")+")"), 4, true)
	turns(t, parsed(t, "(def 0 (@1 (f0)))"), nodeOf(0, nil, deepest), endless, false)
	// Down a term and up again, as far as the fuel goes.
	p := beside(t, 1, "(case $0 @1 1 (@1 (f1 $1)) $0)")
	ended := 0
	for n := 0; n < 256; n += 5 {
		for _, core := range []string{"7", "_", "!"} {
			if _, want := agrees(t, p, nodeOf(1, list(deep(n, core)), deep(n, core))); want != "" {
				ended = n
			}
			agrees(t, p, nodeOf(1, list(deep(n, core)), deep(n, "8")))
		}
	}
	if ended < 60 || ended > 100 {
		t.Errorf("the fuel ended behind %d levels", ended)
	}
}

// badTexts are texts that are no terms.
func badTexts() []string {
	return []string{"", " ", "__", "_ ", " _", "-", "-0", "00", "01", "+1", "32768", "-32769", "99999999999999999999", "1 2", "!!", "@", "@-1", "@100", "@01", "@1(", "@1()", "@1(_", "@1(_ )", "@1( _)", "@1(_  _)", "@1(_ _ _ _)", "@1(_)(_)", "@1(_))", "@1 (_)", "(_)", "a", "@1(a)", "@1(_,_)", "7\n", "@1(_\n_)", "7\x00", "\x00", "é", "\xff", "١", "$0", "error", "f1"}
}

// badNumbers are fuels that may not be, and numbers of definitions that are not there.
func badNumbers() []int {
	return []int{-1, -2, -400, -1 << 31, -1 << 32, 1 << 31, 1 << 32, 1<<32 + 1, math.MinInt, math.MaxInt}
}

// TestP10_1Refused: one thing at a time, beside what else is as it may be, and whatever the Result would come to.
func TestP10_1Refused(t *testing.T) {
	for params := range maxParams + 1 {
		p := beside(t, params, "7")
		args := list("1", "@2(_)", "!")[:params]
		takes(t, p, nodeOf(1, args, "7"), 1, true)
		for _, result := range []string{"7", "_", "8", "!", "@1(_)"} {
			for _, fun := range append(badNumbers(), maxDefs, maxDefs+1) {
				refused(t, p, nodeOf(fun, args, result), maxFuel)
				refused(t, p, nodeOf(fun, args, result), 0)
			}
			for _, fuel := range append(badNumbers(), maxFuel+1, maxFuel+2, 2*maxFuel) {
				refused(t, p, nodeOf(1, args, result), fuel)
			}
			for n := range maxParams + 3 {
				if n != params {
					refused(t, p, nodeOf(1, list("1", "2", "3", "4", "5")[:n], result), maxFuel)
					refused(t, p, nodeOf(1, list("1", "2", "3", "4", "5")[:n:n], result), 0)
				}
			}
			for at := range params {
				for _, s := range badTexts() {
					own := slices.Clone(args)
					own[at] = s
					refused(t, p, nodeOf(1, own, result), maxFuel)
					refused(t, p, nodeOf(1, own, result), 0)
					refused(t, p, nodeOf(1, own, result), 1)
				}
			}
		}
		for _, s := range badTexts() {
			for _, fuel := range []int{0, 1, maxFuel} {
				refused(t, p, nodeOf(1, args, s), fuel)
				refused(t, beside(t, params, "(f5 0)"), nodeOf(1, args, s), fuel)
				refused(t, beside(t, params, "error"), nodeOf(1, args, "@1(_ "+s+" 7 8)"), fuel)
			}
		}
	}
	// Each definition has its own number of arguments.
	p := parsed(t, "(def 0 1)\n(def 1 2)\n(def 2 3)\n(def 3 4)")
	for fun := range 5 {
		for n := range 5 {
			args := list("_", "!", "7", "@1")[:n]
			if fun == n && fun < 4 {
				takes(t, p, nodeOf(fun, args, strconv.Itoa(fun+1)), 1, true)
			} else {
				refused(t, p, nodeOf(fun, args, "1"), maxFuel)
				refused(t, p, nodeOf(fun, args, "_"), maxFuel)
			}
		}
	}
	for size := 1; size <= maxDefs; size++ {
		p := programOf(slices.Repeat([]api.Def{def(0, num(1))}, size)...)
		takes(t, p, nodeOf(size-1, nil, "1"), 1, true)
		refused(t, p, nodeOf(size, nil, "1"), maxFuel)
	}
	// What may not be is refused ahead of all that would come of it (R6).
	refused(t, parsed(t, "(def 0 (f0))"), nodeOf(0, nil, "7"), maxFuel+1)
	refused(t, parsed(t, "(def 0 (f0))"), nodeOf(0, nil, "7"), -1)
	refused(t, parsed(t, "(def 0 (f0))"), nodeOf(0, nil, "7 "), maxFuel)
	refused(t, parsed(t, "(def 0 (@1 2))"), nodeOf(0, nil, "@2(__)"), maxFuel)
	refused(t, parsed(t, "(def 0 1)\n(def 1 $0)"), nodeOf(1, list("__"), "7"), 0)
	refused(t, parsed(t, "(def 0 1)\n(def 2 $0)"), nodeOf(1, list("_", "__"), "_"), maxFuel)
}

// wrongDefs are definitions that may not be, each by one thing, with one parameter unless that is it.
func wrongDefs() []api.Def {
	long := slices.Repeat([]api.Expr{num(1)}, 1)
	for at := 1; at <= maxBody; at++ {
		long = append(long, con(1, at-1))
	}
	tooDeep := []api.Expr{variable(0)}
	for range maxLevels {
		at := len(tooDeep)
		tooDeep = append(tooDeep, num(1), let(at, at-1))
	}
	return []api.Def{
		{}, {Params: 1}, {Params: 1, Body: []api.Expr{}}, def(-1, num(1)), def(4, num(1)), def(math.MinInt, num(1)), def(math.MaxInt, num(1)), def(1, long...), def(1, tooDeep...),
		// Parts that are no Kids, twice Kids, Kids that are not there or not ahead.
		def(1, num(1), num(1)), def(1, num(1), prims(0, 0, 0)), def(1, num(1), prims(0, 0, 1)), def(1, num(1), prims(0, 0, -1)), def(1, num(1), num(1), prims(0, 0, 3)), def(1, num(1), num(1), prims(0, 0, math.MaxInt)),
		def(1, con(1, 0)), def(1, con(1, 1), con(1, 0)), def(1, num(1), con(1, 0), con(2, 0)), def(1, num(1), con(1, 0), num(1)),
		// Variables that are not there.
		def(1, variable(1)), def(1, variable(-1)), def(0, variable(0)), def(1, variable(math.MaxInt)), def(1, variable(1), num(1), let(0, 1)), def(1, num(1), variable(2), let(0, 1)), def(1, num(1), variable(2), num(1), cases(1, 1, 0, 1, 2)), def(1, num(1), num(1), variable(1), cases(1, 1, 0, 1, 2)),
		// Numbers, tags, Ops, Binds, calls, Kinds, too many Kids and too few.
		def(1, num(32768)), def(1, num(-32769)), def(1, con(100)), def(1, con(-1)), def(1, num(1), num(1), prims(5, 0, 1)), def(1, num(1), num(1), prims(-1, 0, 1)), def(1, num(1), num(1), num(1), cases(100, 0, 0, 1, 2)), def(1, num(1), num(1), num(1), cases(1, 4, 0, 1, 2)), def(1, num(1), num(1), num(1), cases(1, -1, 0, 1, 2)),
		def(1, call(8)), def(1, call(-1)), def(1, call(math.MaxInt)), def(1, call(2)), def(1, num(1), call(0, 0)), def(1, call(1)), def(1, num(1), num(1), call(1, 0, 1)),
		def(1, part(-1, 0, 0)), def(1, part(8, 0, 0)), def(1, part(math.MinInt, 0, 0)), def(1, part(api.ExprError, 1, 0)), def(1, part(api.ExprNum, 1, 1)), def(1, num(1), part(api.ExprNum, 1, 0, 0)),
		def(1, num(1), part(api.ExprPrim, 0, 0, 0)), def(1, num(1), num(1), part(api.ExprCase, 0, 0, 0, 1)), def(1, num(1), part(api.ExprLet, 0, 0, 0)), def(1, num(1), num(1), part(api.ExprLet, 1, 0, 0, 1)), def(1, num(1), num(1), num(1), num(1), con(1, 0, 1, 2, 3)),
	}
}

// TestP10_1WrongPrograms: a program that may not be, though what is asked of it is not what is wrong.
func TestP10_1WrongPrograms(t *testing.T) {
	for _, wrong := range wrongDefs() {
		for _, fuel := range []int{0, 1, maxFuel} {
			for _, result := range []string{"_", "1", "!"} {
				refused(t, programOf(def(0, num(1)), wrong), nodeOf(0, nil, result), fuel)
				refused(t, programOf(def(0, num(1)), wrong), nodeOf(1, list("7"), result), fuel)
				refused(t, programOf(def(0, num(1)), wrong, def(1, variable(0))), nodeOf(2, list("7"), result), fuel)
				refused(t, programOf(def(0, num(1)), wrong), nodeOf(1, nil, result), fuel)
			}
		}
	}
	for _, p := range []api.Program{{}, {Defs: []api.Def{}}, programOf(def(1, variable(0))), programOf(def(1, num(1)), def(0, num(1))), programOf(def(0, call(1))), programOf(def(0, call(1)), def(1, num(1))), programOf(def(0, num(1), call(1, 0)), def(0, num(1))), programOf(slices.Repeat([]api.Def{def(0, num(1))}, maxDefs+1)...)} {
		for fun := -1; fun <= maxDefs+1; fun++ {
			for _, result := range []string{"_", "1", "!"} {
				refused(t, p, nodeOf(fun, nil, result), maxFuel)
				refused(t, p, nodeOf(fun, list("7"), result), maxFuel)
			}
		}
	}
}

// TestP10_1Great: what is far too great, or leads round, is refused, and soon (R1).
func TestP10_1Great(t *testing.T) {
	const size = 1 << 20
	refused(t, api.Program{Defs: make([]api.Def, size)}, nodeOf(0, nil, "_"), 5)
	refused(t, programOf(def(0, make([]api.Expr, size)...)), nodeOf(0, nil, "_"), 5)
	refused(t, programOf(def(0, num(1), con(1, make([]int, size)...))), nodeOf(0, nil, "_"), 5)
	refused(t, programOf(def(0, con(1, 1), con(1, 0))), nodeOf(0, nil, "_"), 5)
	p := beside(t, 1, "$0")
	if got, e := holds.Is(p, nodeOf(1, slices.Repeat([]string{"7"}, size), "_"), 5); got || e != api.ErrHoldsForm {
		t.Errorf("%d arguments: %t, %d", size, got, e)
	}
	for _, s := range []string{strings.Repeat("_", size), strings.Repeat("@1(", size) + "_" + strings.Repeat(")", size), "@1(" + strings.Repeat("_ ", size) + "_)", strings.Repeat("9", size)} {
		for _, n := range []api.Node{nodeOf(1, list(s), "_"), nodeOf(1, list("7"), s)} {
			if got, e := holds.Is(p, n, 5); got || e != api.ErrHoldsForm {
				t.Errorf("%.20s..: %t, %d", s, got, e)
			}
		}
	}
}

// TestP10_1Memory: whatever a call does within its fuel, it stays far below the limits of all of it.
func TestP10_1Memory(t *testing.T) {
	terms := list(deep(255, "1234"), wide(maxTerm), "@1("+deep(83, "12345")+" "+deep(84, "123")+" "+deep(84, "-1")+")")
	for _, s := range []string{
		"$0", "(@1 (f1 $0 $1 $2))", "(@1 $1)", "(@1 (f1 $0 $1 $2) (f1 $1 $2 $0) (f1 $2 $0 $1))", "(@1 0 (f1 $0 $1 $2))", "(@1 (f1 (@1 $0 $1 $2) (@1 $1 $2 $0) (@1 $2 $0 $1)))", "(f1 (@1 $0 $1 $2) (@1 $1 $2 $0) (@1 $2 $0 $1))",
		"(case $0 @1 1 (@1 (f1 $3 $1 $2)) 0)", "(case $1 @1 2 (@1 $3 (f1 $0 $4 $2)) 0)", "(let (f1 $0 $1 $2) (let (@1 $3 $3 $3) (let (@1 $4 $4 $4) (@1 (f1 $3 $4 $5)))))",
	} {
		p := beside(t, 3, s)
		for _, result := range append(terms, deep(255, "_"), deep(250, "@1(_ _ _)"), "@1("+deep(83, "_")+" "+deep(84, "_")+" "+deep(84, "_")+")") {
			var before, after runtime.MemStats
			runtime.ReadMemStats(&before)
			holds.Is(p, nodeOf(1, terms, result), maxFuel)
			runtime.ReadMemStats(&after)
			if took := after.TotalAlloc - before.TotalAlloc; took > 1<<24 {
				t.Errorf("%s against %.20s.. takes %d bytes", s, result, took)
			}
		}
	}
}

// tree is a part of a body with all that is in it, at so many levels, or a term, or what was put in for a variable.
type tree struct {
	kind, num, bind int
	there           int
	term            string
	kids            []*tree
}

// Kinds of trees beside the Exprs.
const (
	given = -1
	put   = -2
)

// grow: the tree of a body's part.
func grow(body []api.Expr, at, there int) *tree {
	e := body[at]
	x := &tree{kind: e.Kind, num: e.Num, bind: e.Bind, there: there}
	for i, k := range e.Kids {
		more := 0
		if i == 1 {
			more = map[int]int{api.ExprCase: e.Bind, api.ExprLet: 1}[e.Kind]
		}
		x.kids = append(x.kids, grow(body, k, there+more))
	}
	return x
}

// with: the tree, and in place of each variable of that level what stands there; what was put in ahead of that has no variables any more.
func (x *tree) with(level int, there *tree) *tree {
	if x.kind == put || x.kind == given {
		return x
	}
	if x.kind == api.ExprVar && x.num == level {
		return &tree{kind: put, kids: []*tree{there}}
	}
	y := *x
	y.kids = nil
	for _, k := range x.kids {
		y.kids = append(y.kids, k.with(level, there))
	}
	return &y
}

// slow evaluates by putting in: why is what ended it.
type slow struct {
	p     api.Program
	steps int
	why   string
}

// end ends the evaluation.
func (s *slow) end(why string) *tree {
	s.why = why
	return nil
}

// head: the number or the constructor that comes of a tree; nil, if it ended.
func (s *slow) head(x *tree) *tree {
	if x.kind == given {
		return s.headOfTerm(x.term)
	}
	if s.steps == maxFuel {
		return s.end("fuel")
	}
	s.steps++
	switch x.kind {
	case put:
		return s.head(x.kids[0])
	case api.ExprNum, api.ExprCon:
		return x
	case api.ExprCall:
		d := s.p.Defs[x.num]
		body := grow(d.Body, len(d.Body)-1, d.Params)
		for i, k := range x.kids {
			body = body.with(i, k)
		}
		return s.head(body)
	case api.ExprPrim:
		return s.headOfPrim(x)
	case api.ExprCase:
		a := s.head(x.kids[0])
		if a == nil {
			return nil
		}
		if a.kind == api.ExprNum || a.num != x.num || len(a.kids) != x.bind {
			return s.head(x.kids[2])
		}
		y := x.kids[1]
		for i, k := range a.kids {
			y = y.with(x.there+i, k)
		}
		return s.head(y)
	case api.ExprLet:
		return s.head(x.kids[1].with(x.there, x.kids[0]))
	}
	return s.end("!")
}

// headOfTerm: the head of a given term.
func (s *slow) headOfTerm(text string) *tree {
	kind, num, kids, _ := term.Cut(text)
	switch kind {
	case api.TermHole:
		return s.end(touched)
	case api.TermFail:
		return s.end("!")
	case api.TermNum:
		return &tree{kind: api.ExprNum, num: num}
	}
	x := &tree{kind: api.ExprCon, num: num}
	for _, k := range kids {
		x.kids = append(x.kids, &tree{kind: given, term: k})
	}
	return x
}

// headOfPrim: the head of an operation, by the words of chapter 1.
func (s *slow) headOfPrim(x *tree) *tree {
	a := s.head(x.kids[0])
	if a == nil {
		return nil
	}
	if a.kind == api.ExprCon {
		return s.end("!")
	}
	b := s.head(x.kids[1])
	if b == nil {
		return nil
	}
	if b.kind == api.ExprCon {
		return s.end("!")
	}
	n := 0
	switch {
	case x.num == api.OpAdd:
		n = a.num + b.num
	case x.num == api.OpSub:
		n = a.num - b.num
	case x.num == api.OpMul:
		n = a.num * b.num
	case x.num == api.OpEq && a.num == b.num, x.num == api.OpLess && a.num < b.num:
		n = 1
	}
	for ; n > maxNum; n -= 65536 {
	}
	for ; n < -maxNum-1; n += 65536 {
	}
	return &tree{kind: api.ExprNum, num: n}
}

// words: a term's signs, each by itself, without its blanks.
func words(s string) []string {
	return strings.Fields(strings.NewReplacer("(", " ( ", ")", " ) ").Replace(s))
}

// partsBehind: how many parts has the term whose sign is the first one of these?
func partsBehind(signs []string) int {
	if len(signs) == 1 || signs[1] != "(" {
		return 0
	}
	parts, open := 0, 1
	for _, w := range signs[2:] {
		switch {
		case w == "(":
			open++
		case w == ")":
			open--
		case open == 1:
			parts++
		}
		if open == 0 {
			break
		}
	}
	return parts
}

// sign: how a term begins of which this head tells; an end is one by itself.
func (s *slow) sign(x *tree) string {
	switch {
	case x == nil:
		return s.why
	case x.kind == api.ExprNum:
		return strconv.Itoa(x.num)
	}
	return "@" + strconv.Itoa(x.num)
}

// tree: a call's body, with its arguments put in.
func (s *slow) tree(fun int, args []string) *tree {
	d := s.p.Defs[fun]
	x := grow(d.Body, len(d.Body)-1, d.Params)
	for i, a := range args {
		x = x.with(i, &tree{kind: given, term: a})
	}
	return x
}

// meets: how many steps are taken, and whether the Result is met then; one step more than MaxFuel, if it runs out with that. It goes through the Result's signs, and holds those trees that wait for one.
func meets(p api.Program, n api.Node) (int, string) {
	s := slow{p: p}
	waiting := []*tree{s.tree(n.Fun, n.Args)}
	signs := words(n.Result)
	for i, w := range signs {
		if w == "(" || w == ")" {
			continue
		}
		x := waiting[len(waiting)-1]
		waiting = waiting[:len(waiting)-1]
		if w == "_" {
			continue
		}
		v := s.head(x)
		if v == nil && s.why == "fuel" {
			return endless, ""
		}
		if s.sign(v) != w {
			return s.steps, "not"
		}
		if w[0] != '@' {
			continue
		}
		if len(v.kids) != partsBehind(signs[i:]) {
			return s.steps, "not"
		}
		for _, k := range slices.Backward(v.kids) {
			waiting = append(waiting, k)
		}
	}
	return s.steps, "met"
}

// mayBeAsked: which questions are refused, whatever the fuel is; layers 2 and 6 say which terms and programs may be.
func mayBeAsked(p api.Program, n api.Node) bool {
	if !program.May(p) || n.Fun < 0 || n.Fun >= len(p.Defs) || len(n.Args) != p.Defs[n.Fun].Params {
		return false
	}
	for _, s := range append(slices.Clone(n.Args), n.Result) {
		if !term.May(s) {
			return false
		}
	}
	return true
}

// agrees holds Is against meets, with the fuels at which something may turn; what comes of it.
func agrees(t *testing.T, p api.Program, n api.Node) (int, string) {
	t.Helper()
	if !mayBeAsked(p, n) {
		refused(t, p, n, 0)
		refused(t, p, n, 7)
		refused(t, p, n, maxFuel)
		return 0, "refused"
	}
	steps, want := meets(p, n)
	turns(t, p, n, steps, want == "met")
	refused(t, p, n, -1)
	refused(t, p, n, maxFuel+1)
	return steps, want
}

// TestP10_1EachShortBody: all bodies of a few small parts, against small Results.
func TestP10_1EachShortBody(t *testing.T) {
	small := []string{"_", "!", "7", "-1", "3", "5", "@0", "@1", "@1(_)", "@1(7)", "@1(-1)", "@1(!)", "@1(@1)", "@1(@1(_))", "@1(_ _)", "@1(_ 7)", "@1(7 _)", "@1(7 -1)", "@1(-1 7)", "@1(@1 !)", "@1(! 5)"}
	count := map[string]int{}
	ask := func(body []api.Expr) {
		p := programOf(def(0, num(5)), def(1, body...), def(2, variable(1)))
		if !program.May(p) {
			agrees(t, p, nodeOf(1, list("7"), "_"))
			return
		}
		for _, arg := range []string{"_", "!", "7", "@1", "@1(_)", "@1(3)"} {
			for _, result := range small {
				_, want := agrees(t, p, nodeOf(1, list(arg), result))
				count[want]++
			}
		}
	}
	var more func(body []api.Expr, left int)
	more = func(body []api.Expr, left int) {
		ask(body)
		if left == 0 {
			return
		}
		add := func(e api.Expr) { more(append(slices.Clone(body), e), left-1) }
		for _, e := range []api.Expr{num(-1), variable(0), variable(1), call(0), con(1), part(api.ExprError, 0, 0)} {
			add(e)
		}
		for a := range len(body) {
			add(call(1, a))
			add(con(1, a))
			for b := range len(body) {
				if a == b {
					continue
				}
				add(con(1, a, b))
				add(prims(1, a, b))
				add(let(a, b))
				add(call(2, a, b))
				for c := range len(body) {
					if c != a && c != b {
						add(cases(1, 1, a, b, c))
						add(cases(1, 0, a, b, c))
					}
				}
			}
		}
	}
	more(nil, 3)
	more([]api.Expr{variable(0), variable(0), num(7)}, 1)
	more([]api.Expr{variable(0), variable(1), num(7)}, 1)
	if count["met"] < 1000 || count["not"] < 1000 || count[""] < 100 {
		t.Errorf("%v", count)
	}
}

// TestP10_1AsHeadTells: what layer 9's Head tells is met, in as many steps; where it touches a hole nothing but a hole is.
func TestP10_1AsHeadTells(t *testing.T) {
	r := rand.New(rand.NewPCG(10, 7))
	count := map[string]int{}
	for range 1500 {
		p := made(r)
		for fun, d := range p.Defs {
			args := madeArgs(r, d.Params)
			for _, fuel := range []int{maxFuel, r.IntN(maxFuel + 1), r.IntN(20)} {
				head, e := name.Head(p, fun, args, fuel)
				for _, result := range []string{head, "_", "!", "7", "@1", "@1(_)", "@1(_ _)", "@2(_ _ _)"} {
					if result == "" {
						continue
					}
					want, code := result == "_" || result == head, api.OK
					if e == api.ErrNameFuel && result != "_" {
						code = api.ErrHoldsFuel
					}
					if is, f := holds.Is(p, nodeOf(fun, args, result), fuel); is != want || f != code {
						t.Fatalf("Is(%s) = %t, %d, and Head %q, %d", asked(p, nodeOf(fun, args, result), fuel), is, f, head, e)
					}
				}
				count[strconv.Itoa(int(e))]++
			}
		}
	}
	for _, e := range []api.Errno{api.OK, api.ErrNameFuel, api.ErrNameHole} {
		if count[strconv.Itoa(int(e))] < 500 {
			t.Errorf("%v", count)
		}
	}
}

// moved: the parts in another row; the part that stood at i goes to row[i].
func moved(d api.Def, row []int) api.Def {
	body := make([]api.Expr, len(d.Body))
	for i, e := range d.Body {
		var kids []int
		for _, k := range e.Kids {
			kids = append(kids, row[k])
		}
		e.Kids = kids
		body[row[i]] = e
	}
	return api.Def{Params: d.Params, Body: body}
}

// mixed: each body's parts in another row by chance, each still behind its Kids.
func mixed(r *rand.Rand, p api.Program) api.Program {
	var out api.Program
	for _, d := range p.Defs {
		row := slices.Repeat([]int{-1}, len(d.Body))
		for next := range row {
			var free []int
			for at, e := range d.Body {
				if row[at] < 0 && !slices.ContainsFunc(e.Kids, func(k int) bool { return row[k] < 0 }) {
					free = append(free, at)
				}
			}
			row[free[r.IntN(len(free))]] = next
		}
		out.Defs = append(out.Defs, moved(d, row))
	}
	return out
}

// mostly: that one, or by chance another one from 0 on.
func mostly(r *rand.Rand, n, below int) int {
	if r.IntN(4) > 0 {
		return n
	}
	return r.IntN(below)
}

// grown: an expression's text by chance, in a program whose definitions have so many Params, with at most so much in it. Tag 1 with two parts is looked for, and there, more often than others.
func grown(r *rand.Rand, params []int, levels, deep int) string {
	kind := r.IntN(12)
	if deep == 0 {
		kind = []int{api.ExprNum, api.ExprVar, api.ExprVar, api.ExprVar, 8}[r.IntN(5)]
	}
	some := func(n, more int) string {
		s := ""
		for range n {
			s += " " + grown(r, params, levels+more, deep-1)
		}
		return s
	}
	tag := "@" + strconv.Itoa(mostly(r, 1, 3))
	switch {
	case kind == api.ExprVar && levels > 0:
		return "$" + strconv.Itoa(r.IntN(levels))
	case kind == api.ExprCall || kind == 9:
		f := r.IntN(len(params))
		return "(f" + strconv.Itoa(f) + some(params[f], 0) + ")"
	case kind == api.ExprCon || kind == 10:
		return "(" + tag + some(1+mostly(r, 1, maxKids), 0) + ")"
	case kind == api.ExprPrim:
		return "(" + string("+-*=<"[r.IntN(5)]) + some(2, 0) + ")"
	case kind == api.ExprCase || kind == 11:
		bind := min(mostly(r, 2, maxKids+1), maxLevels-levels)
		return "(case" + some(1, 0) + " " + tag + " " + strconv.Itoa(bind) + some(1, bind) + some(1, 0) + ")"
	case kind == api.ExprLet && levels < maxLevels:
		return "(let" + some(1, 0) + some(1, 1) + ")"
	case kind == api.ExprError && r.IntN(4) == 0:
		return "error"
	case kind == 8:
		return tag
	}
	return strconv.Itoa([]int{0, 1, 2, -7, maxNum, -maxNum - 1}[r.IntN(6)])
}

// looked: an expression's text by chance, that looks at the first parameter, and may go on with a part of it.
func looked(r *rand.Rand, params []int, own, deep int) string {
	bind := 1 + mostly(r, 1, maxKids)
	again := "(f" + strconv.Itoa(own) + " $" + strconv.Itoa(params[own]+r.IntN(bind))
	for range params[own] - 1 {
		again += " " + grown(r, params, params[own]+bind, deep-1)
	}
	op := string("+-*=<"[r.IntN(5)])
	again = []string{again + ")", "(" + op + " " + again + ") " + again + "))", "(" + op + " " + grown(r, params, params[own]+bind, 1) + " " + again + "))", "(let " + again + ") " + grown(r, params, params[own]+bind+1, deep-1) + ")"}[r.IntN(4)]
	return "(case $0 @" + strconv.Itoa(mostly(r, 1, 3)) + " " + strconv.Itoa(bind) + " " + again + " " + grown(r, params, params[own], deep) + ")"
}

// made: a program by chance.
func made(r *rand.Rand) api.Program {
	for {
		params := []int{0}
		for range r.IntN(maxDefs) {
			params = append(params, r.IntN(maxParams+1))
		}
		s := ""
		for own, n := range params {
			body := grown(r, params, n, 1+r.IntN(4))
			if n > 0 && r.IntN(2) == 0 {
				body = looked(r, params, own, 2)
			}
			s += "(def " + strconv.Itoa(n) + " " + body + ")\n"
		}
		// Parse refuses what has too many parts.
		if p, e := parse.Parse(s); e == api.OK {
			return p
		}
	}
}

// madeTerm: a term by chance, with holes if they may be.
func madeTerm(r *rand.Rand, deep int, holes bool) string {
	kind := r.IntN(9)
	if deep == 0 {
		kind = r.IntN(4)
	}
	switch {
	case kind == 0 && holes:
		return "_"
	case kind == 1 && r.IntN(2) == 0:
		return "!"
	case kind < 4:
		return strconv.Itoa([]int{0, 1, 2, -7, maxNum, -maxNum - 1}[r.IntN(6)])
	}
	var kids []string
	for range mostly(r, 2, maxKids+1) {
		kids = append(kids, madeTerm(r, deep-1, holes))
	}
	s := "@" + strconv.Itoa(mostly(r, 1, 3))
	if len(kids) > 0 {
		s += "(" + strings.Join(kids, " ") + ")"
	}
	return s
}

// madeArgs: as many terms by chance.
func madeArgs(r *rand.Rand, n int) []string {
	var args []string
	for range n {
		for {
			// What is too long is no term.
			if s := madeTerm(r, r.IntN(7), true); term.May(s) {
				args = append(args, s)
				break
			}
		}
	}
	return args
}

// changed: one thing else, by chance, in memory of its own.
func changed(r *rand.Rand, p api.Program) api.Program {
	p = mixed(r, p)
	d := &p.Defs[r.IntN(len(p.Defs))]
	e := &d.Body[r.IntN(len(d.Body))]
	odd := []int{-32769, -32768, -1, 0, 1, 2, 3, 4, 5, 7, 8, 9, 99, 100, 32767, 32768, math.MinInt, math.MaxInt}
	switch r.IntN(8) {
	case 0:
		e.Kind = r.IntN(10) - 1
	case 1, 2:
		e.Num = odd[r.IntN(len(odd))]
	case 3:
		e.Bind = r.IntN(6) - 1
	case 4:
		e.Kids = append(e.Kids, r.IntN(len(d.Body)+2)-1)
	case 5:
		if len(e.Kids) > 0 {
			e.Kids[r.IntN(len(e.Kids))] = r.IntN(len(d.Body)+2) - 1
		}
	case 6:
		d.Params = r.IntN(6) - 1
	default:
		p.Defs = p.Defs[:len(p.Defs)-1]
	}
	return p
}

// filled: a term, with something else in place of its holes.
func filled(r *rand.Rand, s string) string {
	var out strings.Builder
	for _, c := range s {
		if c == '_' {
			out.WriteString(madeTerm(r, 1, false))
		} else {
			out.WriteRune(c)
		}
	}
	return out.String()
}

// read: a program out of any bytes, each one a small number.
func read(data []byte) api.Program {
	take := func() int {
		if len(data) == 0 {
			return 0
		}
		n := int(int8(data[0]))
		data = data[1:]
		return n
	}
	var p api.Program
	for len(data) > 0 {
		d := api.Def{Params: take()}
		for range min(max(take(), 0), maxBody+2) {
			e := api.Expr{Kind: take(), Num: take(), Bind: take()}
			for range min(max(take(), 0), 5) {
				e.Kids = append(e.Kids, take())
			}
			d.Body = append(d.Body, e)
		}
		p.Defs = append(p.Defs, d)
	}
	return p
}

// written: bytes of which read tells p, if its numbers are small.
func written(p api.Program) []byte {
	var data []byte
	for _, d := range p.Defs {
		data = append(data, byte(d.Params), byte(len(d.Body)))
		for _, e := range d.Body {
			data = append(data, byte(e.Kind), byte(e.Num), byte(e.Bind), byte(len(e.Kids)))
			for _, k := range e.Kids {
				data = append(data, byte(k))
			}
		}
	}
	return data
}

// unfolded: what comes of a tree, by at most so many heads of some steps each; a hole by chance, and where no more was found out.
func (s *slow) unfolded(r *rand.Rand, x *tree, heads *int, rarely int) string {
	if *heads == 0 || r.IntN(rarely) == 0 {
		return "_"
	}
	*heads--
	s.steps = maxFuel - 100
	v := s.head(x)
	if v == nil && s.why != "!" {
		return "_"
	}
	w := s.sign(v)
	if v == nil || len(v.kids) == 0 {
		return w
	}
	var kids []string
	for _, k := range v.kids {
		kids = append(kids, s.unfolded(r, k, heads, rarely))
	}
	return w + "(" + strings.Join(kids, " ") + ")"
}

// found: what comes of a call, as far as so many heads tell it, or fewer, if it is too long.
func found(r *rand.Rand, p api.Program, fun int, args []string, heads, rarely int) string {
	for {
		s, left := slow{p: p}, heads
		if text := s.unfolded(r, s.tree(fun, args), &left, rarely); term.May(text) {
			return text
		}
		heads /= 2
	}
}

// near: a term, or one with something else in one place.
func near(r *rand.Rand, s string) string {
	if r.IntN(2) == 0 {
		return s
	}
	signs := words(s)
	at := r.IntN(len(signs))
	switch w := signs[at]; {
	case w == "(" || w == ")":
		return s
	case w[0] == '@':
		signs[at] = "@" + strconv.Itoa(r.IntN(4))
	case w == "_":
		signs[at] = madeTerm(r, 1, true)
	default:
		signs[at] = []string{"_", "!", "0", "1", "@1", "@2(_ _)", "7"}[r.IntN(7)]
	}
	return joined(signs)
}

// joined: the term of such signs.
func joined(signs []string) string {
	return strings.NewReplacer(" ( ", "(", " )", ")", "( ", "(").Replace(strings.Join(signs, " "))
}

// madeResult: a Result by chance: what comes of the call, or near to it, or something else.
func madeResult(r *rand.Rand, p api.Program, fun int, args []string) string {
	for {
		s := madeTerm(r, r.IntN(3), true)
		if r.IntN(5) > 0 {
			s = near(r, found(r, p, fun, args, 1+r.IntN(12), 8))
		}
		if term.May(s) {
			return s
		}
	}
}

// TestP10_1ByChance: programs, arguments and Results by chance, the parts in any row.
func TestP10_1ByChance(t *testing.T) {
	r := rand.New(rand.NewPCG(10, 2))
	count, long, parts := map[string]int{}, 0, map[string]int{}
	for range 5000 {
		p := made(r)
		if r.IntN(2) == 0 {
			p = mixed(r, p)
		}
		for fun, d := range p.Defs {
			args := madeArgs(r, d.Params)
			n := nodeOf(fun, args, madeResult(r, p, fun, args))
			n.Parent = r.IntN(20) - 5
			steps, want := agrees(t, p, n)
			count[want]++
			if strings.Contains(n.Result, "(") && steps > 2 {
				parts[want]++
			}
			if steps > 20 && steps <= maxFuel {
				long++
			}
		}
	}
	for _, want := range []string{"met", "not", ""} {
		if count[want] < 500 || parts[want] < 100 {
			t.Errorf("%q came out %d times, with parts %d times", want, count[want], parts[want])
		}
	}
	if long < 100 {
		t.Errorf("only %d took more than 20 steps", long)
	}
}

// TestP10_1Lists: definitions that make lists of lists, which take up to all steps that there are.
func TestP10_1Lists(t *testing.T) {
	r := rand.New(rand.NewPCG(10, 6))
	one := func(from ...string) string { return from[r.IntN(len(from))] }
	count, long, longer := map[string]int{}, 0, 0
	for range 2000 {
		rest := one("$2", "$2", "$2", "(f2 $2)", "(f3 $2 $1)", "(let $2 $3)", "(case $2 @1 2 $4 @0)", "(case $2 @1 2 $2 (f5 0))")
		first := one("$1", "$1", "(f2 $1)", "(f7 $1)", "(f7 (f7 $1))", "(let (f7 $1) (* $3 $3))", "3", "(@2 $1 (f7 $1))", "(case $2 @1 2 $3 0)")
		again := "(f1 " + rest + ")"
		some := one("(@1 "+first+" "+again+")", "(@1 "+first+" "+again+")", "(@2 "+again+" "+first+" "+again+")", "(let "+again+" (@1 "+first+" $3))", "(let "+first+" (@2 $3 "+again+" $3))", "(@1 (@1 "+first+" @0) "+again+")", "(case "+again+" @1 2 (@1 $4 $3) "+again+")")
		p := beside(t, 1, "(case $0 @1 2 "+some+" "+one("0", "0", "$0", "@0", "(f7 2)")+")")
		s := one("@0", "@0", "0", "7", "@2(1)", "_", "!")
		for range r.IntN(25) {
			s = "@1(" + one("1", "2", "3", "-7", "32767", "@1(4 @0)", strconv.Itoa(r.IntN(100)), strconv.Itoa(r.IntN(100)), one("_", "!", "5", "5")) + " " + s + ")"
		}
		result := near(r, found(r, p, 1, list(s), 10+r.IntN(100), 60))
		if !term.May(result) {
			continue
		}
		steps, want := agrees(t, p, nodeOf(1, list(s), result))
		count[want]++
		if steps > 20 && steps <= maxFuel {
			long++
		}
		if steps > maxFuel/2 && steps <= maxFuel {
			longer++
		}
	}
	if count["met"] < 300 || count["not"] < 300 || count[""] < 100 || long < 500 || longer < 100 {
		t.Errorf("%v, only %d took more than 20 steps, %d more than half of all", count, long, longer)
	}
}

// TestP10_1OtherRows: wherever the parts stand, their Kids tell what is evaluated.
func TestP10_1OtherRows(t *testing.T) {
	takes(t, programOf(def(0, num(2), num(1), con(9, 1, 0))), nodeOf(0, nil, "@9(1 2)"), 3, true)
	takes(t, programOf(def(0, num(2), num(1), con(9, 1, 0))), nodeOf(0, nil, "@9(2 1)"), 2, false)
	takes(t, programOf(def(0, num(2), num(1), con(8, 0), con(9, 1, 2))), nodeOf(0, nil, "@9(1 @8(2))"), 4, true)
	takes(t, programOf(def(0, num(3), num(1), num(2), con(9, 1, 2, 0))), nodeOf(0, nil, "@9(1 2 3)"), 4, true)
	takes(t, programOf(def(0, num(3), num(1), num(2), call(1, 1, 2, 0)), def(3, variable(1), variable(0), variable(2), con(9, 2, 1, 0))), nodeOf(0, nil, "@9(3 1 2)"), 8, true)
	r := rand.New(rand.NewPCG(10, 1))
	p := beside(t, 3, "(case (let 1 (@1 (+ $0 $3) (f7 $2))) @1 2 (let (- $3 $4) (@1 (f4 $0 $1 (* $5 (f3 $5 error))) $0)) 0)")
	for range 300 {
		turns(t, mixed(r, p), nodeOf(1, list("5", "_", "6"), "@1(36 5)"), 39, true)
		turns(t, mixed(r, p), nodeOf(1, list("5", "_", "6"), "@1(36 _)"), 38, true)
		turns(t, mixed(r, p), nodeOf(1, list("5", "_", "6"), "@1(36 6)"), 39, false)
	}
}

// TestP10_1Changed: programs with one thing else, arguments and Results that are terms and that are none, definitions that are there and that are not.
func TestP10_1Changed(t *testing.T) {
	r := rand.New(rand.NewPCG(10, 3))
	bad := badTexts()
	count := map[string]int{}
	for range 12000 {
		p := changed(r, made(r))
		fun := r.IntN(maxDefs+2) - 1
		if len(p.Defs) > 0 && r.IntN(4) > 0 {
			fun = r.IntN(len(p.Defs))
		}
		k := r.IntN(maxParams + 2)
		if fun >= 0 && fun < len(p.Defs) && r.IntN(6) > 0 {
			k = max(p.Defs[fun].Params, 0)
		}
		args := madeArgs(r, k)
		if k > 0 && r.IntN(6) == 0 {
			args[r.IntN(k)] = bad[r.IntN(len(bad))]
		}
		result := madeArgs(r, 1)[0]
		switch n := nodeOf(fun, args, result); {
		case r.IntN(6) == 0:
			result = bad[r.IntN(len(bad))]
		case mayBeAsked(p, n):
			result = madeResult(r, p, fun, args)
		}
		_, want := agrees(t, p, nodeOf(fun, args, result))
		count[want]++
	}
	if count["refused"] < 2000 || count["met"] < 500 || count["not"] < 500 || count[""] < 100 {
		t.Errorf("%v", count)
	}
}

// punched: a term with a hole in place of one of its parts, or of itself.
func punched(r *rand.Rand, s string) string {
	kind, num, kids, _ := term.Cut(s)
	if len(kids) == 0 || r.IntN(4) == 0 {
		return "_"
	}
	at := r.IntN(len(kids))
	kids[at] = punched(r, kids[at])
	text, _ := term.Make(kind, num, kids)
	return text
}

// TestP10_1LessIsMetToo: what tells no more than a Result that is met is met too, in no more steps.
func TestP10_1LessIsMetToo(t *testing.T) {
	r := rand.New(rand.NewPCG(10, 8))
	count := 0
	for range 3000 {
		p := made(r)
		for fun, d := range p.Defs {
			args := madeArgs(r, d.Params)
			result := found(r, p, fun, args, 1+r.IntN(30), 60)
			steps, want := meets(p, nodeOf(fun, args, result))
			if want != "met" {
				continue
			}
			turns(t, p, nodeOf(fun, args, result), steps, true)
			for result != "_" {
				less := punched(r, result)
				if is, e := below.Is(less, result); !is || e != api.OK {
					t.Fatalf("%q is not below %q", less, result)
				}
				if is, e := holds.Is(p, nodeOf(fun, args, less), steps); !is || e != api.OK {
					t.Fatalf("Is(%s) = %t, %d, and %q is met", asked(p, nodeOf(fun, args, less), steps), is, e, result)
				}
				result = less
				count++
			}
		}
	}
	if count < 5000 {
		t.Errorf("only %d", count)
	}
}

// TestP10_1HolesThatStandThere: if no hole is touched, the same comes of whatever stands in their places, in as many steps.
func TestP10_1HolesThatStandThere(t *testing.T) {
	r := rand.New(rand.NewPCG(10, 4))
	count := 0
	for range 3000 {
		p := made(r)
		for fun, d := range p.Defs {
			args := madeArgs(r, d.Params)
			result := madeResult(r, p, fun, args)
			steps, want := meets(p, nodeOf(fun, args, result))
			if want != "met" || !strings.Contains(strings.Join(args, ""), "_") {
				continue
			}
			count++
			other := slices.Clone(args)
			for i := range other {
				if s := filled(r, other[i]); term.May(s) {
					other[i] = s
				}
			}
			turns(t, p, nodeOf(fun, args, result), steps, true)
			turns(t, p, nodeOf(fun, other, result), steps, true)
		}
	}
	if count < 1000 {
		t.Errorf("only %d", count)
	}
}

// TestP10_1SpareRoom: what stands behind a list's end is not read; lists may share their memory (R4).
func TestP10_1SpareRoom(t *testing.T) {
	args := list("7", "__", "@1(")
	p := beside(t, 1, "(@1 $0)")
	takes(t, p, nodeOf(1, args[:1], "@1(7)"), 2, true)
	refused(t, p, nodeOf(1, args[:0], "@1(7)"), 5)
	refused(t, p, nodeOf(1, args[:2], "@1(7)"), 5)
	takes(t, p, nodeOf(0, args[:0], "5"), 1, true)
	defs := []api.Def{def(0, num(1), num(2), con(3, 0, 1)), def(1, variable(0)), {Params: -1}}
	takes(t, programOf(defs[:2]...), nodeOf(1, args[:1], "7"), 1, true)
	takes(t, programOf(defs[:2]...), nodeOf(0, nil, "@3(1 2)"), 3, true)
	refused(t, programOf(defs...), nodeOf(1, args[:1], "7"), 1)
	refused(t, programOf(defs[:2]...), nodeOf(2, nil, "7"), 1)
	body := []api.Expr{num(1), con(2, 0), call(5), num(99999)}
	takes(t, programOf(def(0, body[:1]...)), nodeOf(0, nil, "1"), 1, true)
	takes(t, programOf(def(0, body[:2]...)), nodeOf(0, nil, "@2(1)"), 2, true)
	kids := []int{0, 1, 2, 77}
	takes(t, programOf(def(0, num(3), num(1), num(2), con(9, kids[:3]...)), def(0, num(5), num(6), con(2, kids[:2]...))), nodeOf(0, nil, "@9(3 1 2)"), 4, true)
	// One body for all, one text for all arguments and the Result.
	shared := []api.Expr{call(1), call(2), con(7, 0, 1)}
	takes(t, programOf(def(0, shared...), def(0, num(1)), def(0, shared[:1]...)), nodeOf(0, nil, "@7(1 1)"), 6, true)
	const text = "@1(_ 2)"
	takes(t, beside(t, 3, "(f4 $0 $1 $2)"), nodeOf(1, slices.Repeat(list(text), 3), text), 3, true)
	long := "@1(" + text + " " + text + ")"
	takes(t, beside(t, 2, "(@1 $1 $0)"), nodeOf(1, list(long[3:10], long[11:18]), long), 3, true)
}

// TestP10_1NothingLeftBehind: a question that is refused, or another one, turns no later answer, nor leaves anything running (R5).
func TestP10_1NothingLeftBehind(t *testing.T) {
	p := beside(t, 2, "(case $0 @1 2 (@2 (- $2 (f7 $1)) $3) (@1 $1))")
	q := beside(t, 2, "(@1 (f5 (+ $0 $1)))")
	running := runtime.NumGoroutine()
	for range 50 {
		for _, between := range []func(){
			func() { runsOut(t, q, nodeOf(1, list("1", "2"), "@1(3)")) },
			func() { refused(t, api.Program{}, nodeOf(0, nil, "_"), 5) },
			func() { refused(t, p, nodeOf(1, list("_", "__"), "_"), 5) },
			func() { refused(t, p, nodeOf(1, list("_", "7"), "__"), 5) },
			func() { takes(t, p, nodeOf(1, list("_", "7"), "7"), 2, false) },
			func() { takes(t, p, nodeOf(1, list("!", "7"), "!"), 2, true) },
		} {
			turns(t, p, nodeOf(1, list("@1(9 3)", "2"), "@2(5 3)"), 12, true)
			turns(t, p, nodeOf(1, list("@1(9 3)", "2"), "@2(5 4)"), 12, false)
			turns(t, p, nodeOf(1, list("@2(9 _)", "_"), "@1(_)"), 3, true)
			turns(t, p, nodeOf(1, list("@2(9 _)", "_"), "@1(7)"), 4, false)
			between()
		}
	}
	if now := runtime.NumGoroutine(); now > running {
		t.Errorf("%d goroutines, and %d ahead of it", now, running)
	}
}

func FuzzP10_1(f *testing.F) {
	r := rand.New(rand.NewPCG(10, 5))
	for range 200 {
		p := mixed(r, made(r))
		fun := r.IntN(len(p.Defs))
		own := madeArgs(r, p.Defs[fun].Params)
		result := madeResult(r, p, fun, own)
		args := append(own, "_", "", "__")
		f.Add(written(p), fun, p.Defs[fun].Params, args[0], args[1], args[2], result, r.IntN(maxFuel+1))
		f.Add(written(changed(r, p)), fun, r.IntN(4), args[0], args[1], args[2], near(r, result), r.IntN(maxFuel+2)-1)
	}
	f.Fuzz(func(t *testing.T, data []byte, fun, k int, a, b, c, result string, fuel int) {
		p, n := read(data), nodeOf(fun, list(a, b, c)[:min(max(k, 0), 3)], result)
		n.Parent = fuel
		steps, want := agrees(t, p, n)
		if want == "refused" || fuel < 0 || fuel > maxFuel {
			refused(t, p, n, fuel)
			return
		}
		holdAgainst(t, p, n, steps, want == "met", []int{fuel})
	})
}

// TestP10_1FromSeveralAtOnce: each of several goroutines gets what one alone gets, of one and the same program and node (R5).
func TestP10_1FromSeveralAtOnce(t *testing.T) {
	good, never := beside(t, 2, "(case $0 @1 2 (@2 (- $2 (f7 $1)) $3) (@1 $1))"), beside(t, 1, "(@1 (f1 (+ $0 1)))")
	args := list("@1(9 3)", "2")
	for i := range 8 {
		t.Run(strconv.Itoa(i), func(t *testing.T) {
			t.Parallel()
			for range 30 {
				turns(t, good, nodeOf(1, args, "@2(5 3)"), 12, true)
				turns(t, good, nodeOf(1, args, "@2(6 3)"), 11, false)
				turns(t, never, nodeOf(1, args[1:], deep(3, "_")), 5, true)
				turns(t, never, nodeOf(1, args[1:], deep(255, "_")), endless, true)
				refused(t, good, nodeOf(1, args[:1], "@2(5 3)"), maxFuel)
			}
		})
	}
}
