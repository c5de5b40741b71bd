package need_test

import (
	"math"
	"math/rand/v2"
	"runtime"
	"slices"
	"strconv"
	"strings"
	"testing"

	"sleuth/api"
	"sleuth/holds"
	"sleuth/name"
	"sleuth/need"
	"sleuth/parse"
	"sleuth/program"
	"sleuth/show"
	"sleuth/term"
)

// The limits as the document tells them, so that the tests do not lean on what the package leans on.
const (
	maxNum    = 32767
	maxTag    = 99
	maxKids   = 3
	maxTerm   = 1024
	maxDefs   = 8
	maxParams = 3
	maxBody   = 24
	maxLevels = 8
	maxFuel   = 400
	maxNodes  = 512
)

// endless stands among steps for what runs out with any fuel.
const endless = maxFuel + 1

// tooLong stands among trails for ErrNeedLong.
const tooLong = "too long"

// others stand beside main: what they are given, the first of two, the last of three, one without an end, one that fails, twice what it is given, a pair.
const others = "\n(def 1 $0)\n(def 2 $0)\n(def 3 $2)\n(def 1 (f4 $0))\n(def 0 error)\n(def 1 (+ $0 $0))\n(def 2 (@1 $0 $1))\n"

// part: short for a part of a body.
func part(kind, num, bind int, kids ...int) api.Expr {
	return api.Expr{Kind: kind, Num: num, Bind: bind, Kids: kids}
}

func num(n int) api.Expr                    { return part(api.ExprNum, n, 0) }
func variable(n int) api.Expr               { return part(api.ExprVar, n, 0) }
func call(f int, kids ...int) api.Expr      { return part(api.ExprCall, f, 0, kids...) }
func con(tag int, kids ...int) api.Expr     { return part(api.ExprCon, tag, 0, kids...) }
func prims(op int, kids ...int) api.Expr    { return part(api.ExprPrim, op, 0, kids...) }
func cases(tag, bind, a, b, c int) api.Expr { return part(api.ExprCase, tag, bind, a, b, c) }
func let(a, b int) api.Expr                 { return part(api.ExprLet, 0, 0, a, b) }
func fails() api.Expr                       { return part(api.ExprError, 0, 0) }
func def(params int, b ...api.Expr) api.Def { return api.Def{Params: params, Body: b} }
func programOf(defs ...api.Def) api.Program { return api.Program{Defs: defs} }

// parsed: the program of a text that is one.
func parsed(t *testing.T, s string) api.Program {
	t.Helper()
	p, e := parse.Parse(s)
	if e != api.OK {
		t.Fatalf("Parse(%q) = %d", s, e)
	}
	return p
}

// beside: a program in which main is that expression, and the others stand behind it.
func beside(t *testing.T, s string) api.Program {
	t.Helper()
	return parsed(t, "(def 0 "+s+")"+others)
}

// told: all that a program holds, each list's length and its spare room too.
func told(p api.Program) string {
	s := []byte(strconv.Itoa(len(p.Defs)) + " definitions:")
	put := func(before string, n int) {
		s = strconv.AppendInt(append(s, before...), int64(n), 10)
	}
	for _, d := range p.Defs[:cap(p.Defs)] {
		put("\n", d.Params)
		put(" of ", len(d.Body))
		for _, e := range d.Body[:cap(d.Body)] {
			put(" [", e.Kind)
			put(" ", e.Num)
			put(" ", e.Bind)
			put(" of ", len(e.Kids))
			for _, k := range e.Kids[:cap(e.Kids)] {
				put(" ", k)
			}
			s = append(s, ']')
		}
	}
	return string(s)
}

// line: all that a node holds: `0 f1 7 = 7` is f1's, called in the first node's body.
func line(n api.Node) string {
	s := strconv.Itoa(n.Parent) + " f" + strconv.Itoa(n.Fun)
	for _, a := range n.Args {
		s += " " + a
	}
	return s + " = " + n.Result
}

// trail: all that nodes hold.
func trail(ns []api.Node) string {
	var lines []string
	for _, n := range ns {
		lines = append(lines, line(n))
	}
	return strings.Join(lines, "; ")
}

// runs holds Run against a trail: with each of these fuels it answers that, if it is steps or more, and else that it runs out; the program stays as it is (R2, R4).
func runs(t *testing.T, p api.Program, steps int, want string, fuels []int) {
	t.Helper()
	before := told(p)
	for _, fuel := range fuels {
		text, code := want, api.OK
		switch {
		case fuel < steps:
			text, code = "", api.ErrNeedFuel
		case want == tooLong:
			text, code = "", api.ErrNeedLong
		}
		ns, e := need.Run(p, fuel)
		if got := trail(ns); got != text || e != code {
			t.Errorf("Run(%.3000s\n, %d) = %.5000s, %d, want %.5000s, %d, of %d steps", before, fuel, got, e, text, code, steps)
			return
		}
		if e == api.OK {
			stands(t, p, ns)
		}
	}
	if after := told(p); after != before {
		t.Errorf("Run changed %.3000s to %.3000s", before, after)
	}
}

// stands: what holds of each trail: its first node is main's, each other one was called in the body of one ahead of it, all that is told may be.
func stands(t *testing.T, p api.Program, ns []api.Node) {
	t.Helper()
	for i, n := range ns {
		ok := 0 <= n.Fun && n.Fun < len(p.Defs) && len(n.Args) == p.Defs[n.Fun].Params && term.May(n.Result) && n.Result != "_"
		for _, a := range n.Args {
			ok = ok && term.May(a)
		}
		if i == 0 {
			ok = ok && n.Fun == 0 && n.Parent == -1
		} else {
			ok = ok && 0 <= n.Parent && n.Parent < i
		}
		if !ok || i >= maxNodes {
			t.Fatalf("Run(%.3000s): node %d may not be: %s", told(p), i, line(n))
		}
	}
}

// eachFuel: all fuels that may be.
func eachFuel() []int {
	var out []int
	for fuel := range maxFuel + 1 {
		out = append(out, fuel)
	}
	return out
}

// around: the fuels at which an answer of so many steps turns, the least and the greatest one.
func around(steps int) []int {
	return slices.DeleteFunc([]int{0, 1, steps - 2, steps - 1, steps, steps + 1, 2 * steps, maxFuel - 1, maxFuel}, func(fuel int) bool {
		return fuel < 0 || fuel > maxFuel
	})
}

// takes: just so many steps, and then that trail.
func takes(t *testing.T, p api.Program, steps int, want string) {
	t.Helper()
	runs(t, p, steps, want, eachFuel())
}

// turns is takes, but for the fuels at which nothing turns.
func turns(t *testing.T, p api.Program, steps int, want string) {
	t.Helper()
	runs(t, p, steps, want, around(steps))
}

// runsOut: whatever the fuel is.
func runsOut(t *testing.T, p api.Program) {
	t.Helper()
	takes(t, p, endless, "")
}

// refused: ErrNeedForm, and no node beside it (R2).
func refused(t *testing.T, p api.Program, fuel int) {
	t.Helper()
	before := told(p)
	if ns, e := need.Run(p, fuel); len(ns) != 0 || e != api.ErrNeedForm {
		t.Errorf("Run(%.3000s\n, %d) = %.3000s, %d, want ErrNeedForm", before, fuel, trail(ns), e)
	}
	if after := told(p); after != before {
		t.Errorf("Run changed %.3000s to %.3000s", before, after)
	}
}

// row is main's expression, how many steps it takes, its result, and behind that all other nodes.
type row struct {
	s     string
	steps int
	want  string
}

// eachTakes holds Run against rows.
func eachTakes(t *testing.T, rows []row) {
	t.Helper()
	for _, r := range rows {
		takes(t, beside(t, r.s), r.steps, "-1 f0 = "+r.want)
	}
}

// whole is the text of a program, how many steps it takes, and its trail.
type whole struct {
	s     string
	steps int
	want  string
}

// eachWholeTakes holds Run against whole programs.
func eachWholeTakes(t *testing.T, all []whole) {
	t.Helper()
	for _, w := range all {
		takes(t, parsed(t, w.s), w.steps, w.want)
	}
}

// TestP11_1Main: main's own node alone, for each kind of body; its call is no step.
func TestP11_1Main(t *testing.T) {
	eachTakes(t, []row{
		{"7", 1, "7"}, {"0", 1, "0"}, {"-1", 1, "-1"}, {"-32768", 1, "-32768"}, {"32767", 1, "32767"}, {"error", 1, "!"},
		{"@0", 1, "@0"}, {"@99", 1, "@99"}, {"(@3 1)", 2, "@3(1)"}, {"(@3 1 2)", 3, "@3(1 2)"}, {"(@3 1 2 4)", 4, "@3(1 2 4)"}, {"(@3 (@4 (@5 6)))", 4, "@3(@4(@5(6)))"},
		{"(+ 1 2)", 3, "3"}, {"(- 1 2)", 3, "-1"}, {"(* 3 2)", 3, "6"}, {"(= 1 1)", 3, "1"}, {"(< 1 1)", 3, "0"}, {"(+ 32766 1)", 3, "32767"}, {"(+ 32767 1)", 3, "-32768"}, {"(* 256 256)", 3, "0"}, {"(+ 1 (+ 2 3))", 5, "6"},
		{"(+ error 1)", 2, "!"}, {"(+ 1 error)", 3, "!"}, {"(+ @1 1)", 2, "!"}, {"(+ 1 @1)", 3, "!"}, {"(= @1 @1)", 2, "!"}, {"(+ (@1 2) 1)", 2, "!"}, {"(+ @1 (f4 1))", 2, "!"},
		{"(case @1 @1 0 5 6)", 3, "5"}, {"(case @2 @1 0 5 6)", 3, "6"}, {"(case 7 @1 0 5 6)", 3, "6"}, {"(case error @1 0 5 6)", 2, "!"}, {"(case (@1 8) @1 0 5 6)", 3, "6"}, {"(case @1 @1 1 5 6)", 3, "6"},
		{"(case (@1 8) @1 1 $0 6)", 4, "8"}, {"(case (@1 8 9) @1 2 $1 6)", 4, "9"}, {"(case (@1 8 9 7) @1 3 $1 6)", 4, "9"}, {"(case (@1 8 error) @1 2 $0 6)", 4, "8"}, {"(case (@0 8) @0 1 $0 6)", 4, "8"}, {"(case (@99 8) @99 1 $0 6)", 4, "8"},
		{"(let 5 $0)", 3, "5"}, {"(let 5 6)", 2, "6"}, {"(let error 6)", 2, "6"}, {"(let error $0)", 3, "!"}, {"(let @1 $0)", 3, "@1"}, {"(let (@1 2) $0)", 4, "@1(2)"},
	})
	eachWholeTakes(t, []whole{
		// One definition alone.
		{"(def 0 7)", 1, "-1 f0 = 7"}, {"(def 0 error)", 1, "-1 f0 = !"}, {"(def 0 (@1 2 3))", 3, "-1 f0 = @1(2 3)"},
		// Others that nobody calls.
		{"(def 0 7) (def 0 (f0))", 1, "-1 f0 = 7"}, {"(def 0 7) (def 3 (f1 $0 $1 $2)) (def 0 error)", 1, "-1 f0 = 7"},
	})
	runsOut(t, parsed(t, "(def 0 (f0))"))
	for n := -maxNum - 1; n <= maxNum; n++ {
		ns, e := need.Run(programOf(def(0, num(n))), 1)
		if got := trail(ns); got != "-1 f0 = "+strconv.Itoa(n) || e != api.OK {
			t.Errorf("%d: %s, %d", n, got, e)
		}
	}
}

// TestP11_1Calls: a node for each call that is evaluated, in the row in which they begin; a call that nobody needs makes none.
func TestP11_1Calls(t *testing.T) {
	eachTakes(t, []row{
		{"(f1 7)", 3, "7; 0 f1 7 = 7"}, {"(f5)", 2, "!; 0 f5 = !"}, {"(f1 error)", 3, "!; 0 f1 ! = !"}, {"(f1 @3)", 3, "@3; 0 f1 @3 = @3"}, {"(f1 (@3 4))", 4, "@3(4); 0 f1 @3(4) = @3(4)"}, {"(f6 7)", 5, "14; 0 f6 7 = 14"}, {"(f7 7 8)", 4, "@1(7 8); 0 f7 7 8 = @1(7 8)"},
		// Nobody needs it.
		{"(f2 7 (f5))", 3, "7; 0 f2 7 _ = 7"}, {"(f3 (f5) (f4 1) 7)", 3, "7; 0 f3 _ _ 7 = 7"}, {"(f2 7 (f0))", 3, "7; 0 f2 7 _ = 7"}, {"(let (f5) 7)", 2, "7"}, {"(let (f1 7) 8)", 2, "8"}, {"(case @1 @1 0 7 (f5))", 3, "7"}, {"(case @2 @1 0 (f5) 7)", 3, "7"}, {"(case (@1 (f5) 7) @1 2 $1 0)", 4, "7"}, {"(+ error (f1 7))", 2, "!"}, {"(+ @1 (f1 7))", 2, "!"}, {"(f2 (f2 7 (f5)) (f4 1))", 5, "7; 0 f2 7 _ = 7; 0 f2 7 _ = 7"},
		// Their row: when each one's evaluation begins.
		{"(+ (f1 1) (f1 2))", 7, "3; 0 f1 1 = 1; 0 f1 2 = 2"}, {"(- (f6 1) (f1 2))", 9, "0; 0 f6 1 = 2; 0 f1 2 = 2"}, {"(f6 (f1 7))", 7, "14; 0 f6 7 = 14; 0 f1 7 = 7"}, {"(f1 (f6 (f5)))", 7, "!; 0 f1 ! = !; 0 f6 ! = !; 0 f5 = !"}, {"(f1 (f1 (f1 7)))", 7, "7; 0 f1 7 = 7; 0 f1 7 = 7; 0 f1 7 = 7"},
		{"(let (f1 1) (+ (f6 2) $0))", 11, "5; 0 f6 2 = 4; 0 f1 1 = 1"}, {"(let (f1 1) (+ $0 (f6 2)))", 11, "5; 0 f1 1 = 1; 0 f6 2 = 4"}, {"(case (f7 (f1 1) (f6 2)) @1 2 (- $1 $0) 0)", 14, "3; 0 f7 1 4 = @1(1 4); 0 f6 2 = 4; 0 f1 1 = 1"}, {"(case (f6 1) @1 0 7 (f1 8))", 9, "8; 0 f6 1 = 2; 0 f1 8 = 8"},
	})
	eachWholeTakes(t, []whole{
		{"(def 0 (f1)) (def 0 (f2)) (def 0 7)", 3, "-1 f0 = 7; 0 f1 = 7; 1 f2 = 7"},
		{"(def 0 (f1 (@1 7 (@1 8 @0)))) (def 1 (case $0 @1 2 (+ $1 (f1 $2)) 0))", 19, "-1 f0 = 15; 0 f1 @1(7 @1(8 @0)) = 15; 1 f1 @1(8 @0) = 8; 2 f1 @0 = 0"},
		{"(def 0 (f1 (@1 7 (@1 8 @0)))) (def 1 (case $0 @1 2 (+ (f1 $2) $1) 0))", 19, "-1 f0 = 15; 0 f1 @1(7 @1(8 @0)) = 15; 1 f1 @1(8 @0) = 8; 2 f1 @0 = 0"},
		{"(def 0 (f1 (@1 7 (@1 8 @0)))) (def 1 (case $0 @1 2 (f1 $2) 9))", 13, "-1 f0 = 9; 0 f1 @1(_ @1(_ @0)) = 9; 1 f1 @1(_ @0) = 9; 2 f1 @0 = 9"},
	})
	// Main itself, called again, as far as it is needed.
	takes(t, parsed(t, "(def 0 (@1 (case (f0) @1 2 $1 0) 7))"), 7, "-1 f0 = @1(7 7); 0 f0 = @1(_ 7)")
	takes(t, parsed(t, "(def 0 (@1 (f1 (f0)) 7)) (def 1 (case $0 @1 2 $2 0))"), 9, "-1 f0 = @1(7 7); 0 f1 @1(_ 7) = 7; 0 f0 = @1(_ 7)")
	// Of each definition, with each number of Kids.
	for f := 1; f < maxDefs; f++ {
		for params := range maxParams + 1 {
			p := programOf(slices.Repeat([]api.Def{def(0, num(1))}, maxDefs)...)
			p.Defs[0] = def(0, append([]api.Expr{num(5), num(6), num(7)}[:params:params], call(f, []int{0, 1, 2}[:params]...))...)
			p.Defs[f] = def(params, num(70+f))
			takes(t, p, 2, "-1 f0 = "+strconv.Itoa(70+f)+"; 0 f"+strconv.Itoa(f)+strings.Repeat(" _", params)+" = "+strconv.Itoa(70+f))
			for k := range params {
				p.Defs[f] = def(params, variable(k))
				args := slices.Repeat([]string{"_"}, params)
				args[k] = strconv.Itoa(5 + k)
				takes(t, p, 3, "-1 f0 = "+args[k]+"; 0 f"+strconv.Itoa(f)+" "+strings.Join(args, " ")+" = "+args[k])
			}
		}
	}
}

// TestP11_1Parent: the node in whose call the call stands, not the one that needed it first.
func TestP11_1Parent(t *testing.T) {
	eachWholeTakes(t, []whole{
		// An argument that is a call, needed within the call that it is handed to, and within that one's own.
		{"(def 0 (f1 (f2 7))) (def 1 (+ $0 1)) (def 1 $0)", 7, "-1 f0 = 8; 0 f1 7 = 8; 0 f2 7 = 7"},
		{"(def 0 (f1 (f2 7))) (def 1 (f3 $0)) (def 1 (+ $0 1)) (def 1 $0)", 8, "-1 f0 = 8; 0 f1 8 = 8; 1 f3 8 = 8; 0 f2 7 = 8"},
		{"(def 0 (f1 7)) (def 1 (f2 (f3 $0))) (def 1 (f3 $0)) (def 1 $0)", 7, "-1 f0 = 7; 0 f1 7 = 7; 1 f2 7 = 7; 2 f3 7 = 7; 1 f3 7 = 7"},
		{"(def 0 (f1 (f3 (f3 7)))) (def 1 (f2 (f3 $0))) (def 1 (f3 $0)) (def 1 $0)", 11, "-1 f0 = 7; 0 f1 7 = 7; 1 f2 7 = 7; 2 f3 7 = 7; 1 f3 7 = 7; 0 f3 7 = 7; 0 f3 7 = 7"},
		{"(def 0 (f1 (f3 1) (f3 2))) (def 2 (f2 (f3 $1) $0)) (def 2 (- $0 $1)) (def 1 $0)", 13, "-1 f0 = 1; 0 f1 1 2 = 1; 1 f2 2 1 = 1; 1 f3 2 = 2; 0 f3 2 = 2; 0 f3 1 = 1"},
		// A let's, and a case's variables.
		{"(def 0 (f1 (@1 (f2) 3))) (def 1 (let (f2) (case $0 @1 2 (+ $2 (+ $1 $1)) 0))) (def 0 5)", 14, "-1 f0 = 15; 0 f1 @1(5 _) = 15; 0 f2 = 5; 1 f2 = 5"},
		{"(def 0 (let (f2) (f1 (@1 $0 (f2))))) (def 1 (case $0 @1 2 (+ $2 (+ $1 (f2))) 0)) (def 0 5)", 15, "-1 f0 = 15; 0 f1 @1(5 5) = 15; 0 f2 = 5; 0 f2 = 5; 1 f2 = 5"},
		// What is looked at, and a number of an operation.
		{"(def 0 (f1)) (def 0 (case (f2) @1 0 (f3) 0)) (def 0 @1) (def 0 (+ (f4) (f4))) (def 0 5)", 10, "-1 f0 = 10; 0 f1 = 10; 1 f2 = @1; 1 f3 = 10; 3 f4 = 5; 3 f4 = 5"},
		// A part of a call's result, needed by who called it, and shown.
		{"(def 0 (case (f1 1) @1 1 $0 0)) (def 1 (@1 (f2 $0))) (def 1 (+ $0 $0))", 9, "-1 f0 = 2; 0 f1 1 = @1(2); 1 f2 1 = 2"},
		{"(def 0 (f1 1)) (def 1 (@1 (f2 $0))) (def 1 (+ $0 $0))", 7, "-1 f0 = @1(2); 0 f1 1 = @1(2); 1 f2 1 = 2"},
		{"(def 0 (f1 (f3))) (def 1 (@1 (f2 $0) (f3))) (def 1 (@2 (f3) $0)) (def 0 5)", 10, "-1 f0 = @1(@2(5 5) 5); 0 f1 5 = @1(@2(5 5) 5); 1 f2 5 = @2(5 5); 2 f3 = 5; 0 f3 = 5; 1 f3 = 5"},
		// Calls of one's own, each in the one ahead.
		{"(def 0 (f1 (@1 (@1 @0)))) (def 1 (case $0 @1 1 (f2 $1) @7)) (def 1 (f1 $0))", 15, "-1 f0 = @7; 0 f1 @1(@1(@0)) = @7; 1 f2 @1(@0) = @7; 2 f1 @1(@0) = @7; 3 f2 @0 = @7; 4 f1 @0 = @7"},
		// One that is handed on, ahead of the calls in whose bodies it is needed.
		{"(def 0 (f1 (f3 1) (@1 (@1 @0)))) (def 2 (case $1 @1 1 (f1 (f2 $0) $2) $0)) (def 1 (+ $0 1)) (def 1 $0)", 24, "-1 f0 = 3; 0 f1 1 @1(@1(@0)) = 3; 1 f1 2 @1(@0) = 3; 2 f1 3 @0 = 3; 2 f2 2 = 3; 1 f2 1 = 2; 0 f3 1 = 1"},
	})
}

// TestP11_1Once: what stands at a level is evaluated once, however often it is needed, and makes its nodes once.
func TestP11_1Once(t *testing.T) {
	eachTakes(t, []row{
		// A parameter, a let's, a case's variable.
		{"(f6 (f1 7))", 7, "14; 0 f6 7 = 14; 0 f1 7 = 7"}, {"(f6 (f6 (f6 1)))", 13, "8; 0 f6 4 = 8; 0 f6 2 = 4; 0 f6 1 = 2"}, {"(let 7 (+ $0 $0))", 5, "14"}, {"(let (f1 7) (+ $0 $0))", 7, "14; 0 f1 7 = 7"}, {"(let (f1 7) (+ $0 (+ $0 $0)))", 9, "21; 0 f1 7 = 7"}, {"(case (@1 7) @1 1 (+ $0 $0) 0)", 6, "14"}, {"(case (@1 (f1 7)) @1 1 (+ $0 $0) 0)", 8, "14; 0 f1 7 = 7"}, {"(case (f7 (f1 7) (f5)) @1 2 (+ $0 $0) 0)", 9, "14; 0 f7 7 _ = @1(7 _); 0 f1 7 = 7"}, {"(case (@2 1 (f1 7) 3) @2 3 (* $1 (* $1 (* $1 $1))) 0)", 12, "2401; 0 f1 7 = 7"},
		{"(case (f7 (f1 7) (f6 3)) @1 2 (+ (+ $0 $1) (+ $1 $0)) 0)", 18, "26; 0 f7 7 6 = @1(7 6); 0 f1 7 = 7; 0 f6 3 = 6"},
		// By two that are handed the same.
		{"(let (f1 7) (+ (f6 $0) (f6 $0)))", 13, "28; 0 f6 7 = 14; 0 f1 7 = 7; 0 f6 7 = 14"}, {"(let (f1 7) (@1 (f6 $0) (f1 $0) $0))", 11, "@1(14 7 7); 0 f6 7 = 14; 0 f1 7 = 7; 0 f1 7 = 7"},
		// A constructor's parts, too, are evaluated once.
		{"(let (f7 (f1 7) (f5)) (+ (case $0 @1 2 $1 0) (case $0 @1 2 $1 0)))", 13, "14; 0 f7 7 _ = @1(7 _); 0 f1 7 = 7"}, {"(let (@1 (f1 7)) (case $0 @1 1 (case $0 @1 1 (+ $1 $2) 0) 0))", 12, "14; 0 f1 7 = 7"},
		// What is evaluated as far as its tag, and later on wholly.
		{"(let (@1 (f1 7)) (case $0 @1 1 (@2 $0 $1) 0))", 8, "@2(@1(7) 7); 0 f1 7 = 7"}, {"(let (f7 (f1 7) (f1 8)) (case $0 @1 2 (@2 $2 $0) 0))", 12, "@2(8 @1(7 8)); 0 f7 7 8 = @1(7 8); 0 f1 8 = 8; 0 f1 7 = 7"},
		// A failure stays what came of it, wherever it stands.
		{"(let (f5) (@1 $0 $0))", 4, "@1(! !); 0 f5 = !"}, {"(let (f5) (@1 (@2 $0) $0 (@3 $0)))", 5, "@1(@2(!) ! _); 0 f5 = !"}, {"(let (f5) (f7 $0 $0))", 5, "@1(! !); 0 f7 ! ! = @1(! !); 0 f5 = !"}, {"(let (f5) (f1 (@1 $0 $0 $0)))", 6, "@1(! ! !); 0 f1 @1(! ! !) = @1(! ! !); 0 f5 = !"}, {"(let (f5) (let (f1 $0) (@1 $1 $0 $1)))", 7, "@1(! ! !); 0 f1 ! = !; 0 f5 = !"}, {"(let (f5) (let (f1 $0) (@1 $0 $1 $1)))", 5, "@1(! _ _); 0 f5 = !"}, {"(let error (+ (f2 1 $0) (f6 $0)))", 9, "!; 0 f2 1 ! = 1; 0 f6 ! = !"},
	})
}

// TestP11_1VeryOne: a Kid that is a variable is the very one that stands there, wherever it is put: it takes no step of its own.
func TestP11_1VeryOne(t *testing.T) {
	eachTakes(t, []row{
		// As an argument.
		{"(let 7 (f1 $0))", 4, "7; 0 f1 7 = 7"}, {"(let 7 (f1 (+ $0 0)))", 7, "7; 0 f1 7 = 7"}, {"(let 7 (f6 $0))", 6, "14; 0 f6 7 = 14"}, {"(let (f1 7) (f2 $0 $0))", 6, "7; 0 f2 7 7 = 7; 0 f1 7 = 7"}, {"(let (f5) (f2 1 $0))", 4, "1; 0 f2 1 _ = 1"}, {"(let 7 (f2 1 $0))", 4, "1; 0 f2 1 _ = 1"},
		{"(let 7 (+ (f2 1 $0) $0))", 7, "8; 0 f2 1 7 = 1"}, {"(let 7 (+ (f2 1 (f1 $0)) $0))", 7, "8; 0 f2 1 _ = 1"},
		// As a let's.
		{"(let 7 (let $0 $1))", 4, "7"}, {"(let 7 (let $0 (let $1 (let $2 $3))))", 6, "7"}, {"(let 7 (let $0 (+ $1 $0)))", 6, "14"}, {"(let (f1 7) (let $0 (let $1 (@1 $0 $1 $2))))", 7, "@1(7 7 7); 0 f1 7 = 7"},
		// As a constructor's part.
		{"(let 7 (@1 $0))", 3, "@1(7)"}, {"(let 7 (@1 $0 $0))", 3, "@1(7 7)"}, {"(let 7 (@1 $0 $0 $0))", 3, "@1(7 7 7)"}, {"(let 7 (@1 (f1 $0) $0))", 5, "@1(7 7); 0 f1 7 = 7"}, {"(let (f1 7) (case (@1 $0) @1 1 (+ $1 $0) 0))", 9, "14; 0 f1 7 = 7"}, {"(case (@1 (f1 7) 8) @1 2 (@2 $0 $0 $1) 0)", 7, "@2(7 7 8); 0 f1 7 = 7"}, {"(let (@1 (@1 7)) (@2 $0 (case $0 @1 1 $1 0)))", 8, "@2(@1(@1(7)) @1(7))"},
		// Not so what is looked at, an operation's Kids, the whole of a body.
		{"(let @5 (case $0 @5 0 1 2))", 5, "1"}, {"(let 7 (- $0 $0))", 5, "0"}, {"(let 7 $0)", 3, "7"}, {"(let (let 7 $0) $0)", 5, "7"}, {"(case @1 @1 0 (let 6 $0) 2)", 5, "6"},
	})
	eachWholeTakes(t, []whole{
		// Through several calls.
		{"(def 0 (f1 (f4 7))) (def 1 (f2 $0)) (def 1 (f3 $0)) (def 1 (@1 $0 $0)) (def 1 $0)", 7, "-1 f0 = @1(7 7); 0 f1 7 = @1(7 7); 1 f2 7 = @1(7 7); 2 f3 7 = @1(7 7); 0 f4 7 = 7"},
		{"(def 0 (f1 (f4 7))) (def 1 (f2 $0 $0)) (def 2 (f3 $0 $1 $0)) (def 3 (+ $0 (+ $1 $2))) (def 1 $0)", 11, "-1 f0 = 21; 0 f1 7 = 21; 1 f2 7 7 = 21; 2 f3 7 7 7 = 21; 0 f4 7 = 7"},
		{"(def 0 (f1 1 2)) (def 2 (f2 $1 $0)) (def 2 (f3 $1 $0)) (def 2 (@1 $0 $1))", 6, "-1 f0 = @1(1 2); 0 f1 1 2 = @1(1 2); 1 f2 2 1 = @1(1 2); 2 f3 1 2 = @1(1 2)"},
		{"(def 0 (f1 1 (f3))) (def 2 (f2 $1 $0)) (def 2 $1) (def 0 error)", 4, "-1 f0 = 1; 0 f1 1 _ = 1; 1 f2 _ 1 = 1"},
		{"(def 0 (f1 (f3 5))) (def 1 (let $0 (f2 (@1 $1)))) (def 1 (case $0 @1 1 (@2 $1 $0) 0)) (def 1 $0)", 10, "-1 f0 = @2(5 @1(5)); 0 f1 5 = @2(5 @1(5)); 1 f2 @1(5) = @2(5 @1(5)); 0 f3 5 = 5"},
	})
}

// TestP11_1Levels: what stands at a level, and a part, has the levels of the place where it stands.
func TestP11_1Levels(t *testing.T) {
	eachTakes(t, []row{
		{"(let 1 (let $0 (let 2 $1)))", 5, "1"}, {"(let 1 (let (let 2 (let $0 $2)) (let 3 $1)))", 8, "1"}, {"(let 1 (let (let 2 (+ $0 $1)) (let 3 $1)))", 10, "3"}, {"(case (let 1 (@1 $0)) @1 1 $0 0)", 5, "1"}, {"(case (let 1 (let 2 (@1 $0 $1))) @1 2 (- $1 $0) 0)", 9, "1"},
		{"(+ (let 1 (f1 $0)) (let 2 (f1 $0)))", 9, "3; 0 f1 1 = 1; 0 f1 2 = 2"}, {"(let 1 (@9 $0 (let 2 (@9 $0 $1))))", 6, "@9(1 @9(1 2))"}, {"(f1 (let 1 (@9 $0)))", 5, "@9(1); 0 f1 @9(1) = @9(1)"}, {"(case (@1 (@2 3) 4) @1 2 (@9 $1 $0) 0)", 6, "@9(4 @2(3))"}, {"(let 1 (f2 (let 2 (f2 $0 $1)) $0))", 7, "1; 0 f2 1 1 = 1; 0 f2 1 _ = 1"}, {"(let 1 (f2 (let 2 (f2 $1 $0)) $0))", 7, "2; 0 f2 2 _ = 2; 0 f2 2 _ = 2"},
		{"(f6 (let 3 (f6 $0)))", 10, "12; 0 f6 6 = 12; 0 f6 3 = 6"}, {"(let 1 (case (@1 2 (let 3 (@1 $0 $1))) @1 2 (case $2 @1 2 (@9 $0 (@9 $1 $3) $4) 0) 0))", 12, "@9(1 @9(2 1) 3)"},
	})
	// Each level of eight: lets, and what cases bind.
	for level := range maxLevels {
		s := "$" + strconv.Itoa(level)
		lets, bound := s, s
		for n := maxLevels - 1; n >= 0; n-- {
			given := strconv.Itoa(10 + n)
			if n == level {
				given = "(f1 " + given + ")"
			}
			lets = "(let " + given + " " + lets + ")"
		}
		takes(t, beside(t, lets), maxLevels+4, "-1 f0 = 1"+s[1:]+"; 0 f1 1"+s[1:]+" = 1"+s[1:])
		for n := 1; n >= 0; n-- {
			bound = "(case (@1 " + strconv.Itoa(3*n+10) + " " + strconv.Itoa(3*n+11) + " " + strconv.Itoa(3*n+12) + ") @1 3 " + bound + " 0)"
		}
		bound = strings.Replace(bound, s+" 0) 0)", "(let 16 (let 17 "+s+")) 0) 0)", 1)
		takes(t, beside(t, bound), 8, "-1 f0 = 1"+s[1:])
	}
	eachWholeTakes(t, []whole{
		{"(def 0 (f1 1 2 3)) (def 3 (let 4 (@9 $0 $1 (@9 $2 $3))))", 8, "-1 f0 = @9(1 2 @9(3 4)); 0 f1 1 2 3 = @9(1 2 @9(3 4))"},
		{"(def 0 (f1 1 2 3)) (def 3 (case (@1 $2 $1 $0) @1 3 (@9 $3 $4 $5) 0))", 7, "-1 f0 = @9(3 2 1); 0 f1 1 2 3 = @9(3 2 1)"},
	})
}

// TestP11_1Shown: main's result is evaluated wholly, its parts from the left, each wholly ahead of the next one; nothing else is.
func TestP11_1Shown(t *testing.T) {
	eachTakes(t, []row{
		{"(@1 (f1 1) (f1 2))", 7, "@1(1 2); 0 f1 1 = 1; 0 f1 2 = 2"}, {"(@1 (f1 1) (f1 2) (f1 3))", 10, "@1(1 2 3); 0 f1 1 = 1; 0 f1 2 = 2; 0 f1 3 = 3"}, {"(@1 (f7 1 2) (f1 3))", 8, "@1(@1(1 2) 3); 0 f7 1 2 = @1(1 2); 0 f1 3 = 3"},
		{"(@1 (f7 (f1 1) 2) (f1 3))", 10, "@1(@1(1 2) 3); 0 f7 1 2 = @1(1 2); 0 f1 1 = 1; 0 f1 3 = 3"}, {"(@1 (@2 (@3 (f1 1)) (f1 2)) (f1 3))", 12, "@1(@2(@3(1) 2) 3); 0 f1 1 = 1; 0 f1 2 = 2; 0 f1 3 = 3"}, {"(@1 (f1 1) (@2 (f1 2) (@3 (f1 3))))", 12, "@1(1 @2(2 @3(3))); 0 f1 1 = 1; 0 f1 2 = 2; 0 f1 3 = 3"}, {"(@1 (@2 (f1 1)) (@2 (f1 2)) (@2 (f1 3)))", 13, "@1(@2(1) @2(2) @2(3)); 0 f1 1 = 1; 0 f1 2 = 2; 0 f1 3 = 3"},
		// It, ahead of its parts.
		{"(f7 (f1 1) (f1 2))", 8, "@1(1 2); 0 f7 1 2 = @1(1 2); 0 f1 1 = 1; 0 f1 2 = 2"}, {"(case (f6 1) @1 0 0 (@1 (f1 2)))", 10, "@1(2); 0 f6 1 = 2; 0 f1 2 = 2"},
		// The same thing as two parts, and within several parts.
		{"(let (f1 7) (@1 $0 $0))", 5, "@1(7 7); 0 f1 7 = 7"}, {"(let (f1 7) (@1 (@2 $0) $0 (@2 $0)))", 7, "@1(@2(7) 7 @2(7)); 0 f1 7 = 7"}, {"(let (@2 (f1 7)) (@1 $0 $0))", 6, "@1(@2(7) @2(7)); 0 f1 7 = 7"}, {"(let (f1 7) (@1 (+ $0 0) (f1 $0)))", 10, "@1(7 7); 0 f1 7 = 7; 0 f1 7 = 7"}, {"(let (@2 (f1 7) (f1 8)) (@1 $0 (case $0 @2 2 (@3 $2 $1) 0)))", 12, "@1(@2(7 8) @3(8 7)); 0 f1 7 = 7; 0 f1 8 = 8"}, {"(let (@2 (f1 7) (f1 8)) (@1 (case $0 @2 2 (@3 $2 $1) 0) $0))", 12, "@1(@3(8 7) @2(7 8)); 0 f1 8 = 8; 0 f1 7 = 7"},
		// Two that look the same, but are two.
		{"(@1 (f1 7) (f1 7))", 7, "@1(7 7); 0 f1 7 = 7; 0 f1 7 = 7"}, {"(@1 (@2 (f1 7)) (@2 (f1 7)))", 9, "@1(@2(7) @2(7)); 0 f1 7 = 7; 0 f1 7 = 7"},
		// What else was made stays as it is.
		{"(let (f7 (f1 1) (f1 2)) (case $0 @1 2 (@2 $1) 0))", 9, "@2(1); 0 f7 1 _ = @1(1 _); 0 f1 1 = 1"}, {"(let (@9 (f1 1) 2 3) (case $0 @9 3 (@1 $0) 0))", 10, "@1(@9(1 2 3)); 0 f1 1 = 1"}, {"(let (@3 (f1 1)) (case $0 @3 1 7 0))", 5, "7"}, {"(let (@3 (f1 1)) (f1 (case $0 @3 1 7 0)))", 7, "7; 0 f1 7 = 7"}, {"(f2 (@1 (f1 1)) (f1 2))", 6, "@1(1); 0 f2 @1(1) _ = @1(1); 0 f1 1 = 1"},
	})
}

// TestP11_1Failures: a failure, as the result and as a part at each place, ends all.
func TestP11_1Failures(t *testing.T) {
	eachTakes(t, []row{
		// As the result: all that it comes by fails.
		{"(f5)", 2, "!; 0 f5 = !"}, {"(f1 (f5))", 4, "!; 0 f1 ! = !; 0 f5 = !"}, {"(+ (f5) (f1 1))", 3, "!; 0 f5 = !"}, {"(+ (f1 1) (f5))", 6, "!; 0 f1 1 = 1; 0 f5 = !"}, {"(f6 (f5))", 5, "!; 0 f6 ! = !; 0 f5 = !"}, {"(f6 @1)", 4, "!; 0 f6 @1 = !"}, {"(f6 (@1 (f1 1)))", 4, "!; 0 f6 @1(_) = !"}, {"(+ 1 (f7 (f1 1) 2))", 4, "!; 0 f7 _ _ = @1(_ _)"}, {"(case (f5) @1 0 1 2)", 3, "!; 0 f5 = !"}, {"(case (f6 (f5)) @1 0 (f1 1) (f1 2))", 6, "!; 0 f6 ! = !; 0 f5 = !"}, {"(let (f5) $0)", 4, "!; 0 f5 = !"}, {"(case (@1 (f5)) @1 1 (f6 $0) 0)", 7, "!; 0 f6 ! = !; 0 f5 = !"}, {"(case 1 @1 0 2 error)", 3, "!"}, {"(case @1 @1 0 error 2)", 3, "!"},
		// As a part: what stands behind it stays a hole.
		{"(@1 error)", 2, "@1(!)"}, {"(@1 error 7)", 2, "@1(! _)"}, {"(@1 7 error)", 3, "@1(7 !)"}, {"(@1 error 7 8)", 2, "@1(! _ _)"}, {"(@1 7 error 8)", 3, "@1(7 ! _)"}, {"(@1 7 8 error)", 4, "@1(7 8 !)"}, {"(@1 error error error)", 2, "@1(! _ _)"},
		{"(@1 (f5) (f1 7))", 3, "@1(! _); 0 f5 = !"}, {"(@1 (f1 7) (f5) (f1 8))", 6, "@1(7 ! _); 0 f1 7 = 7; 0 f5 = !"}, {"(@1 (@2 error 7) 8)", 3, "@1(@2(! _) _)"}, {"(@1 (@2 7 error) 8)", 4, "@1(@2(7 !) _)"}, {"(@1 (@2 7 (@3 error 8) 9) (@4 6) 5)", 5, "@1(@2(7 @3(! _) _) _ _)"}, {"(@1 7 (@2 8 error))", 5, "@1(7 @2(8 !))"}, {"(f7 error (f1 7))", 3, "@1(! _); 0 f7 ! _ = @1(! _)"}, {"(f7 (f1 7) (+ 1 @1))", 8, "@1(7 !); 0 f7 7 ! = @1(7 !); 0 f1 7 = 7"}, {"(f7 (f7 1 error) 2)", 6, "@1(@1(1 !) _); 0 f7 @1(1 !) _ = @1(@1(1 !) _); 0 f7 1 ! = @1(1 !)"},
		// What does not end stands behind it.
		{"(@1 error (f4 1))", 2, "@1(! _)"}, {"(@1 (@2 error) (f4 1))", 3, "@1(@2(!) _)"}, {"(@1 (+ @1 (f4 1)) (f4 1))", 3, "@1(! _)"}, {"(@1 (f5) (f0))", 3, "@1(! _); 0 f5 = !"},
		// What was evaluated ahead of it stays what it is, though it stands behind it.
		{"(let (f1 7) (@1 (+ $0 @1) $0))", 8, "@1(! 7); 0 f1 7 = 7"}, {"(let (@2 (f1 7)) (@1 (+ $0 1) $0))", 5, "@1(! @2(_))"}, {"(case (@2 (f1 7) (f1 8)) @2 2 (@1 $0 error $0 ) 0)", 7, "@1(7 ! 7); 0 f1 7 = 7"},
	})
	runsOut(t, beside(t, "(@1 (f4 1) error)"))
	runsOut(t, beside(t, "(@1 7 (@2 (f4 1)) error)"))
	runsOut(t, beside(t, "(+ (f4 1) error)"))
}

// TestP11_1AtTheEnd: Args and Results are told as they are at the end.
func TestP11_1AtTheEnd(t *testing.T) {
	eachTakes(t, []row{
		// An argument that is evaluated only after its call was made, and ended.
		{"(let (f1 7) (+ (f2 1 $0) $0))", 9, "8; 0 f2 1 7 = 1; 0 f1 7 = 7"}, {"(let 7 (+ (f3 $0 1 2) (f3 $0 $0 $0)))", 8, "9; 0 f3 7 _ 2 = 2; 0 f3 7 7 7 = 7"}, {"(let (@1 (f1 7)) (+ (f2 1 $0) (case $0 @1 1 $1 0)))", 12, "8; 0 f2 1 @1(7) = 1; 0 f1 7 = 7"}, {"(let (@1 (f1 7)) (@2 (f2 1 $0) $0))", 9, "@2(1 @1(7)); 0 f2 1 @1(7) = 1; 0 f1 7 = 7"},
		// A result whose parts are evaluated only when it is shown, or never.
		{"(f7 (f1 1) (f1 2))", 8, "@1(1 2); 0 f7 1 2 = @1(1 2); 0 f1 1 = 1; 0 f1 2 = 2"}, {"(f1 (f7 1 2))", 6, "@1(1 2); 0 f1 @1(1 2) = @1(1 2); 0 f7 1 2 = @1(1 2)"}, {"(case (f7 (f1 1) (f1 2)) @1 2 $1 0)", 7, "2; 0 f7 _ 2 = @1(_ 2); 0 f1 2 = 2"}, {"(case (f7 (f1 1) (f1 2)) @1 2 3 0)", 4, "3; 0 f7 _ _ = @1(_ _)"}, {"(let (f7 1 2) (@2 (case $0 @1 2 3 0) $0))", 9, "@2(3 @1(1 2)); 0 f7 1 2 = @1(1 2)"},
		// Parts within parts.
		{"(case (f1 (@1 (@2 3 4) (@2 5 6))) @1 2 (case $1 @2 2 $3 0) 0)", 9, "6; 0 f1 @1(_ @2(_ 6)) = @1(_ @2(_ 6))"}, {"(case (f7 (f7 1 2) (f7 3 4)) @1 2 (case $0 @1 2 $2 0) 0)", 9, "1; 0 f7 @1(1 _) _ = @1(@1(1 _) _); 0 f7 1 _ = @1(1 _)"}, {"(case (f1 (@1 @2 error)) @1 2 (case $0 @2 0 $1 0) 0)", 9, "!; 0 f1 @1(@2 !) = @1(@2 !)"},
		// Failures within.
		{"(let error (+ (f2 1 (@1 2 $0)) $0))", 7, "!; 0 f2 1 _ = 1"}, {"(let error (let (@1 2 $0) (+ (case $1 @1 2 1 0) $0)))", 9, "!"}, {"(let error (let (@1 2 $0) (+ (case (f1 $1) @1 2 1 0) $0)))", 10, "!; 0 f1 @1(_ !) = @1(_ !)"},
		{"(f1 -32768)", 3, "-32768; 0 f1 -32768 = -32768"}, {"(f1 32767)", 3, "32767; 0 f1 32767 = 32767"}, {"(f1 @99)", 3, "@99; 0 f1 @99 = @99"}, {"(f1 @0)", 3, "@0; 0 f1 @0 = @0"}, {"(f7 (@99 -32768) (@0 32767))", 6, "@1(@99(-32768) @0(32767)); 0 f7 @99(-32768) @0(32767) = @1(@99(-32768) @0(32767))"},
	})
	eachWholeTakes(t, []whole{
		{"(def 0 (f1 (@1 (f2) 3))) (def 1 (case $0 @1 2 $2 0)) (def 0 error)", 6, "-1 f0 = 3; 0 f1 @1(_ 3) = 3"},
		{"(def 0 (case (f1) @1 2 (case $0 @2 1 $2 0) 0)) (def 0 (@1 (@2 (f2)) (@3 (f2)))) (def 0 7)", 9, "-1 f0 = 7; 0 f1 = @1(@2(7) _); 1 f2 = 7"},
		// Without an end, but for what is asked.
		{"(def 0 (case (f1 5) @1 2 (case $1 @1 2 $2 0) 0)) (def 1 (@1 $0 (f1 (+ $0 1))))", 12, "-1 f0 = 6; 0 f1 5 = @1(5 @1(6 _)); 1 f1 6 = @1(6 _)"},
		{"(def 0 (case (f1 5) @1 2 (case $1 @1 2 (case $3 @1 2 9 0) 0) 0)) (def 1 (@1 $0 (f1 (+ $0 1))))", 12, "-1 f0 = 9; 0 f1 _ = @1(_ @1(_ @1(_ _))); 1 f1 _ = @1(_ @1(_ _)); 2 f1 _ = @1(_ _)"},
	})
}

// TestP11_1EachConstructor: each tag with each number of parts.
func TestP11_1EachConstructor(t *testing.T) {
	for tag := range maxTag + 1 {
		for kids := range maxKids + 1 {
			body := append([]api.Expr{num(1), num(2), num(3)}[:kids:kids], con(tag, []int{0, 1, 2}[:kids]...))
			s := "@" + strconv.Itoa(tag) + []string{"", "(1)", "(1 2)", "(1 2 3)"}[kids]
			turns(t, programOf(def(0, body...)), kids+1, "-1 f0 = "+s)
			turns(t, programOf(def(0, append(body, call(1, kids))...), def(1, variable(0))), kids+3, "-1 f0 = "+s+"; 0 f1 "+s+" = "+s)
		}
	}
}

// TestP11_1Endless: programs that go on without an end run out with each fuel.
func TestP11_1Endless(t *testing.T) {
	for _, s := range []string{
		"(def 0 (f0))", "(def 0 (+ (f0) error))", "(def 0 (+ 1 (f0)))", "(def 0 (case (f0) @1 0 1 2))", "(def 0 (case @1 @1 0 (f0) 2))", "(def 0 (let (f0) $0))", "(def 0 (let 1 (f0)))",
		"(def 0 (f1)) (def 0 (f0))", "(def 0 (f1 7)) (def 1 (f1 $0))", "(def 0 (f1 (f0))) (def 1 $0)", "(def 0 (f1 1 2 3)) (def 3 (f1 $1 $2 $0))",
		"(def 0 (f1 1)) (def 1 (f1 (+ $0 1)))", "(def 0 (f1 1)) (def 1 (f1 (@1 $0 $0 $0)))", "(def 0 (f1 1 1 1)) (def 3 (f1 (@1 $0 $1 $2) (@1 $1 $2 $0) (+ $0 (* $1 $2))))", "(def 0 (f1 (f1 (f1 1)))) (def 1 (+ (f1 $0) (f1 $0)))", "(def 0 (let (f1 1) (@1 $0 $0))) (def 1 (f1 $0))",
		// Constructors without an end, that are shown.
		"(def 0 (@1 (f0)))", "(def 0 (@1 7 (f0)))", "(def 0 (@1 (f0) error))", "(def 0 (f1 1)) (def 1 (@1 $0 (f1 (+ $0 1))))", "(def 0 (f1 1)) (def 1 (@1 (f1 $0) (f1 $0) (f1 $0)))", "(def 0 (f1 1)) (def 1 (@1 $0 $0 (f1 (@1 $0 $0 $0))))",
		// A failure that is never come to.
		"(def 0 (@1 7 (@1 (f1 1)) error)) (def 1 (f1 $0))",
	} {
		runsOut(t, parsed(t, s))
	}
}

// TestP11_1Fuel: just MaxFuel steps are few enough, one more is not.
func TestP11_1Fuel(t *testing.T) {
	// f1 takes a step, and each of its 22 calls of f2 takes 4: 89 in all.
	const defs = "\n(def 1 " + "(f2 (f2 (f2 (f2 (f2 (f2 (f2 (f2 (f2 (f2 (f2 (f2 (f2 (f2 (f2 (f2 (f2 (f2 (f2 (f2 (f2 (f2 $0))))))))))))))))))))))" + ")\n(def 1 (+ $0 $0))"
	const four, ten = "(f1 (f1 (f1 (f1 1))))", "(f2 (f2 (f2 (f2 (f2 (f2 (f2 (f2 (f2 (f2 1))))))))))"
	for _, c := range []struct {
		s      string
		steps  int
		result string
	}{
		{four, 357, "0"}, {ten, 41, "1024"}, {"(@1 " + four + " " + ten + ")", 399, "@1(0 1024)"}, {"(@1 " + four + " (@2 " + ten + "))", maxFuel, "@1(0 @2(1024))"}, {"(@1 (@2 " + ten + ") " + four + ")", maxFuel, "@1(@2(1024) 0)"}, {"(@1 (@3 " + four + ") (@2 " + ten + "))", endless, ""}, {"(@1 (@2 (@2 " + ten + ")) " + four + ")", endless, ""}, {"(@1 " + four + " (@2 " + ten + ") (f0))", endless, ""}, {"(@1 " + four + " (@2 " + ten + ") 7)", endless, ""},
		{"(+ (let 1 " + four + ") " + ten + ")", maxFuel, "1024"}, {"(+ (let 1 " + four + ") (f2 " + ten + "))", endless, ""}, {"(let " + four + " (@1 " + ten + " $0))", maxFuel, "@1(1024 0)"}, {"(let " + four + " (@1 (+ 0 " + ten + ") $0))", endless, ""},
	} {
		p := parsed(t, "(def 0 "+c.s+")"+defs)
		steps, want := meant(p)
		if steps != c.steps || !strings.HasPrefix(want+";", "-1 f0 = "+c.result+";") && c.result != "" {
			t.Errorf("%s takes %d steps, and then %s", c.s, steps, want)
		}
		takes(t, p, c.steps, want)
	}
	// What needs one step has it with fuel 1, and not with fuel 0.
	for _, s := range []string{"7", "error", "@1", "-32768", "@99"} {
		takes(t, beside(t, s), 1, "-1 f0 = "+strings.Replace(s, "error", "!", 1))
	}
}

// TestP11_1Edges: the greatest number of parts, definitions, parameters, Kids.
func TestP11_1Edges(t *testing.T) {
	// 24 parts: 12 numbers and 11 sums of all, within a constructor.
	sum, parts := "1", 1
	for range 11 {
		sum, parts = "(+ "+sum+" 1)", parts+2
	}
	if parts+1 != maxBody {
		t.Fatalf("%d parts", parts+1)
	}
	eachWholeTakes(t, []whole{
		{"(def 0 (@99 " + sum + "))", 24, "-1 f0 = @99(12)"},
		{"(def 0 (f1)) (def 0 (@99 " + sum + "))", 25, "-1 f0 = @99(12); 0 f1 = @99(12)"},
		{"(def 0 (f1)) (def 0 (f2)) (def 0 (f3)) (def 0 (f4)) (def 0 (f5)) (def 0 (f6)) (def 0 (f7)) (def 0 -32768)", 8, "-1 f0 = -32768; 0 f1 = -32768; 1 f2 = -32768; 2 f3 = -32768; 3 f4 = -32768; 4 f5 = -32768; 5 f6 = -32768; 6 f7 = -32768"},
		{"(def 0 (f7 1 2 3))\n" + strings.Repeat("(def 3 error)\n", maxDefs-2) + "(def 3 (@99 $2 $1 $0))", 5, "-1 f0 = @99(3 2 1); 0 f7 1 2 3 = @99(3 2 1)"},
		{"(def 0 (@1 (f1) (f2) (@1 (f3) (f4) (@1 (f5) (f6) (f7)))))\n(def 0 1)\n(def 0 2)\n(def 0 3)\n(def 0 4)\n(def 0 5)\n(def 0 6)\n(def 0 7)", 17, "-1 f0 = @1(1 2 @1(3 4 @1(5 6 7))); 0 f1 = 1; 0 f2 = 2; 0 f3 = 3; 0 f4 = 4; 0 f5 = 5; 0 f6 = 6; 0 f7 = 7"},
	})
}

// nested: so many of what begins so, one in another, around a core.
func nested(f string, n int, core string) string {
	return strings.Repeat("("+f+" ", n) + core + strings.Repeat(")", n)
}

// deep: so many constructors of one part, one in another, around a core.
func deep(n int, core string) string {
	return strings.Repeat("@1(", n) + core + strings.Repeat(")", n)
}

// TestP11_1ManyNodes: as many nodes as MaxFuel allows: long rows of calls that call nothing but the next one.
func TestP11_1ManyNodes(t *testing.T) {
	// f2 and what it calls: 6 calls, and a number. f1 calls 15 of these, by 7 constructors. Main calls 3 of those, and 8 more of f2.
	const chain = "(def 0 (f3))\n(def 0 (f4))\n(def 0 (f5))\n(def 0 (f6))\n(def 0 (f7))\n(def 0 7)"
	const tree = "(@1 (@1 (f2) (f2) (f2)) (@1 (f2) (f2) (f2)) (@1 (@1 (f2) (f2) (f2)) (@1 (f2) (f2) (f2)) (@1 (f2) (f2) (f2))))"
	const main = "(@1 (@1 (f1) (f1) (f1)) (@1 (f2) (f2) (f2)) (@1 (f2) (f2) (@1 (f2) (f2) (f2))))"
	p := parsed(t, "(def 0 "+main+")\n(def 0 "+tree+")\n"+chain)
	const ofTree = "@1(@1(7 7 7) @1(7 7 7) @1(@1(7 7 7) @1(7 7 7) @1(7 7 7)))"
	lines := []string{"-1 f0 = @1(@1(" + ofTree + " " + ofTree + " " + ofTree + ") @1(7 7 7) @1(7 7 @1(7 7 7)))"}
	ofChain := func(caller int) {
		for f := 2; f <= 7; f++ {
			lines = append(lines, strconv.Itoa(caller)+" f"+strconv.Itoa(f)+" = 7")
			caller = len(lines) - 1
		}
	}
	for range 3 {
		lines = append(lines, "0 f1 = "+ofTree)
		f1 := len(lines) - 1
		for range 15 {
			ofChain(f1)
		}
	}
	for range 8 {
		ofChain(0)
	}
	if len(lines) != 1+3*91+8*6 {
		t.Fatalf("%d nodes", len(lines))
	}
	turns(t, p, 5+3*(1+7+15*7)+8*7, strings.Join(lines, "; "))
	// The two steps that are left make a node more, and it is the last one.
	p = parsed(t, "(def 0 "+strings.Replace(main, "(@1 (f2) (f2) (f2)))", "(@1 (f2) (f2) (@1 (f2) (f7))))", 1)+")\n(def 0 "+tree+")\n"+chain)
	steps, want := meant(p)
	if steps != maxFuel+1 {
		t.Errorf("%d steps", steps)
	}
	turns(t, p, endless, want)
}

// TestP11_1HandedOn: long rows of calls that hand one thing on.
func TestP11_1HandedOn(t *testing.T) {
	const twenty = "(@1 (@1 (@1 (@1 (@1 (@1 (@1 (@1 (@1 (@1 (@1 (@1 (@1 (@1 (@1 (@1 (@1 (@1 (@1 (@1 $0))))))))))))))))))))"
	for _, c := range []struct {
		last, what string
		steps      int
		behind     []string
	}{
		{"$1", "7", 2, nil}, {"$1", "!", 2, nil}, {"$1", "@9(8 8)", 3, nil}, {"8", "_", 1, nil}, {"(f3 $1)", "7", 3, []string{"81 f3 7 = 7"}},
	} {
		given := map[string]string{"7": "7", "!": "error", "@9(8 8)": "(let 8 (@9 $0 $0))", "_": "(f0)"}[c.what]
		p := parsed(t, "(def 0 (f1 "+nested("f2", 4, "0")+" "+given+"))\n(def 2 (case $0 @1 1 (f1 $2 $1) "+c.last+"))\n(def 1 "+twenty+")\n(def 1 $0)")
		result := strings.Replace(c.what, "_", "8", 1)
		lines := []string{"-1 f0 = " + result}
		caller, steps := 0, 1
		for i := range 81 {
			lines = append(lines, strconv.Itoa(caller)+" f1 "+deep(80-i, "0")+" "+c.what+" = "+result)
			caller = len(lines) - 1
			if i%20 == 0 && i < 80 {
				// f2 makes the next twenty, when the first one of them is looked at.
				lines = append(lines, "0 f2 "+deep(60-i, "0")+" = "+deep(80-i, "0"))
				steps++
			}
			// It is looked at, and then the next call.
			steps += 4
		}
		steps += c.steps - 1
		if given == "(let 8 (@9 $0 $0))" {
			steps++
		}
		for _, s := range c.behind {
			lines = append(lines, strings.Replace(s, "81", strconv.Itoa(caller), 1))
		}
		turns(t, p, steps, strings.Join(lines, "; "))
	}
	// A row of calls in one another's arguments, each a part of the next one's.
	for n := 1; n < 22; n++ {
		want := "-1 f0 = 7"
		for range n {
			want += "; 0 f1 7 = 7"
		}
		takes(t, beside(t, nested("f1", n, "7")), 2*n+1, want)
	}
}

// TestP11_1Deep: constructors nested as deep as a term may be, and as deep as fuel allows.
func TestP11_1Deep(t *testing.T) {
	// f1 puts 23 constructors around what it is given.
	around := "\n(def 1 " + nested("@1", 23, "$0") + ")"
	within := func(main string) api.Program { return parsed(t, "(def 0 "+main+")"+around) }
	of := func(cons, calls int, core, result string) string {
		lines := []string{"-1 f0 = " + deep(cons+23*calls, result)}
		for ; calls > 0; calls-- {
			lines = append(lines, "0 f1 "+deep(23*(calls-1), result)+" = "+deep(23*calls, result))
		}
		return strings.Join(lines, "; ")
	}
	for _, c := range []struct {
		cons, calls int
		core, want  string
	}{
		{0, 11, "7", "7"}, {1, 11, "7", "7"}, {2, 11, "7", "7"}, {2, 11, "error", "!"}, {2, 11, "@1", "@1"}, {2, 11, "-123", "-123"}, {2, 11, "1234", "1234"}, {2, 11, "12345", tooLong}, {2, 11, "-1234", tooLong}, {2, 11, "-32768", tooLong}, {3, 11, "7", tooLong}, {3, 11, "error", tooLong},
		{0, 12, "7", tooLong}, {9, 12, "7", tooLong}, {9, 14, "7", tooLong},
	} {
		steps, want := c.cons+24*c.calls+1, tooLong
		if c.want != tooLong {
			want = of(c.cons, c.calls, c.core, c.want)
		}
		turns(t, within(nested("@1", c.cons, nested("f1", c.calls, c.core))), steps, want)
	}
	// 375 constructors and 16 calls, and what is in the innermost one, with just all steps.
	turns(t, within(nested("@1", 7, nested("f1", 16, "error"))), 7+16*24+1, tooLong)
	for _, c := range []struct {
		core  string
		steps int
		want  string
	}{{"(let (+ 1 2) (+ $0 $0))", maxFuel - 1, tooLong}, {"(let (+ 1 2) (@1 (+ $0 $0)))", maxFuel, tooLong}, {"(let (+ 1 2) (@1 (@1 (+ $0 $0))))", endless, ""}} {
		turns(t, parsed(t, "(def 0 "+nested("@1", 7, nested("f1", 16, "(f2)"))+")"+around+"\n(def 0 "+c.core+")"), c.steps, c.want)
	}
	// As deep, but nobody looks at it: the same, and what is told of it is short.
	p := parsed(t, "(def 0 (case "+nested("f1", 17, "7")+" @1 1 (f2 $0) 0))"+around+"\n(def 1 (case $0 @1 1 (case $1 @1 1 5 6) 7))")
	turns(t, p, 11, "-1 f0 = 5; 0 f1 _ = "+deep(3, "_")+"; 0 f2 "+deep(2, "_")+" = 5")
}

// TestP11_1Long: terms of MaxTerm bytes just may be, of a byte more not, as an argument and as a result; what stands in no node may be longer.
func TestP11_1Long(t *testing.T) {
	// f1 puts two of what it is given into one: seven times, that makes 1019 bytes of a core of 3. f2 and f3 go down to the core.
	const defs = "\n(def 1 (@9 $0 $0))\n(def 1 (case $0 TAG (f3 $1) 0))\n(def 1 (case $0 @9 2 (f3 $1) $0))\n(def 1 8)\n(def 0 BODY)"
	size := func(core string) int { return 128*len(core) + 5*127 }
	for _, c := range []struct {
		core, tag string
		may       bool
	}{
		{"123", "@9", true}, {"123", "@99", true}, {"123", "two", false}, {"1", "two", true}, {"12", "@99", true}, {"-32768", "@99", false}, {"1234", "@9", false}, {"-12", "@99", true}, {"@12", "@99", true}, {"@1", "@0", true}, {"error", "@99", true},
	} {
		wrap, more, tag := "("+c.tag+" X)", 2+len(c.tag), c.tag+" 1"
		if c.tag == "two" {
			wrap, more, tag = "(@9 X 1)", 6, "@9 2"
		}
		// The core is the very one at all of its places.
		big := strings.Replace(wrap, "X", nested("f1", 7, c.core), 1)
		result := strings.Replace(c.core, "error", "!", 1)
		if total := size(result) + more; total > maxTerm == c.may {
			t.Fatalf("%s, %s: %d bytes", c.core, c.tag, total)
		}
		// As main's result, as another one's, as an argument that is shown, or gone down, or evaluated elsewhere.
		for _, main := range []string{big, "(f5)", "(case (f2 " + big + ") @9 0 1 8)", "(f2 " + big + ")", "(let " + big + " (+ (f4 $0) (case $0 TAG (f3 $1) 0)))"} {
			p := parsed(t, strings.NewReplacer("BODY", big, "TAG", tag).Replace("(def 0 "+main+")"+defs))
			steps, want := meant(p)
			if c.may == (want == tooLong) || steps > maxFuel {
				t.Errorf("%s of %d bytes, %d steps: %s", main, size(result)+more, steps, want)
			}
			turns(t, p, steps, want)
		}
	}
	long := "(@9 " + nested("f1", 7, "123") + " 1)"
	with := func(main string) api.Program {
		return parsed(t, strings.NewReplacer("BODY", "7", "TAG", "@99 1").Replace("(def 0 "+main+")"+defs))
	}
	// A let's is no argument; what is taken from it is shorter. Each call of f1 takes 2 steps, each of f3 4 of its own, but for what it goes down to.
	p := with("(let " + long + " (case $0 @9 2 (f3 $1) 0))")
	steps, want := meant(p)
	if want == tooLong || !strings.HasPrefix(want, "-1 f0 = 123; 0 f3 ") || len(want) < 3000 {
		t.Errorf("%d steps, %.100s", steps, want)
	}
	turns(t, p, steps, want)
	// What is never evaluated, or only to its head, is short.
	takes(t, with("(f4 "+long+")"), 2, "-1 f0 = 8; 0 f4 _ = 8")
	takes(t, with("(case (f4 "+long+") @1 0 1 2)"), 4, "-1 f0 = 2; 0 f4 _ = 8")
	takes(t, with("(let "+long+" (f4 $0))"), 3, "-1 f0 = 8; 0 f4 _ = 8")
	takes(t, with("(f4 (f1 "+long+"))"), 2, "-1 f0 = 8; 0 f4 _ = 8")
	takes(t, with("(case (f1 "+long+") @9 2 7 0)"), 4, "-1 f0 = 7; 0 f1 _ = @9(_ _)")
	// Which error goes first: it runs out, though something is too long already; a program that may not be, whatever would come of it (R6).
	runsOut(t, with("(@1 "+long+" (f0))"))
	runsOut(t, with("(case (f2 (@99 (f1 "+nested("f1", 7, "123")+"))) @1 0 0 (f0))"))
	p = with(long)
	steps, want = meant(p)
	if want != tooLong || steps != 1+7*2+1+1 {
		t.Errorf("%d steps, %s", steps, want)
	}
	takes(t, p, steps, want)
	refused(t, p, maxFuel+1)
	refused(t, p, -1)
	p.Defs[3].Body = slices.Concat(p.Defs[3].Body, []api.Expr{num(1)})
	refused(t, p, maxFuel)
	// A failure ends it, with what is too long on its left.
	takes(t, with("(@1 "+long+" error (f0))"), 1+17+1, tooLong)
	takes(t, with("(@1 error "+long+")"), 2, "-1 f0 = @1(! _)")
	// Thrice, and a byte more: as many parts as there may be.
	thrice := "(@1 " + nested("f1", 6, "12") + " (TAG (@99 " + nested("f1", 4, "123") + ")) " + nested("f1", 6, "99") + ")"
	for _, tag := range []string{"@9", "@99"} {
		p := with(strings.Replace(thrice, "TAG", tag, 1))
		steps, want := meant(p)
		result, _, _ := strings.Cut(strings.TrimPrefix(want, "-1 f0 = "), ";")
		if tag == "@9" && len(result) != maxTerm || tag == "@99" && want != tooLong {
			t.Errorf("%s: %s", tag, result)
		}
		takes(t, p, steps, want)
	}
}

// badFuels may not be.
func badFuels() []int {
	return []int{-1, -2, -400, maxFuel + 1, maxFuel + 2, 2 * maxFuel, -1 << 31, -1 << 32, 1 << 31, 1 << 32, 1<<32 + 1, math.MinInt, math.MaxInt}
}

// TestP11_1Fuels: fuel that may not be is refused, whatever the program would come to.
func TestP11_1Fuels(t *testing.T) {
	for _, s := range []string{"7", "error", "(f0)", "(f4 1)", "(@1 (f1 7))"} {
		for _, fuel := range badFuels() {
			refused(t, beside(t, s), fuel)
		}
	}
	takes(t, beside(t, "7"), 1, "-1 f0 = 7")
}

// wrongDefs are definitions that may not be, each by one thing, with one parameter unless that is it.
func wrongDefs() []api.Def {
	long := slices.Repeat([]api.Expr{num(1)}, 1)
	for at := 1; at <= maxBody; at++ {
		long = append(long, con(1, at-1))
	}
	tooDeep := []api.Expr{variable(0)}
	for range maxLevels {
		at := len(tooDeep)
		tooDeep = append(tooDeep, num(1), let(at, at-1))
	}
	return []api.Def{
		{}, {Params: 1}, {Params: 1, Body: []api.Expr{}}, def(-1, num(1)), def(4, num(1)), def(math.MinInt, num(1)), def(math.MaxInt, num(1)), def(1, long...), def(1, tooDeep...),
		// Parts that are no Kids, twice Kids, Kids that are not there or not ahead.
		def(1, num(1), num(1)), def(1, num(1), prims(0, 0, 0)), def(1, num(1), prims(0, 0, 1)), def(1, num(1), prims(0, 0, -1)), def(1, num(1), num(1), prims(0, 0, 3)), def(1, num(1), num(1), prims(0, 0, math.MaxInt)),
		def(1, con(1, 0)), def(1, con(1, 1), con(1, 0)), def(1, num(1), con(1, 0), con(2, 0)), def(1, num(1), con(1, 0), num(1)),
		// Variables that are not there.
		def(1, variable(1)), def(1, variable(-1)), def(0, variable(0)), def(1, variable(math.MaxInt)), def(1, variable(1), num(1), let(0, 1)), def(1, num(1), variable(2), let(0, 1)), def(1, num(1), variable(2), num(1), cases(1, 1, 0, 1, 2)), def(1, num(1), num(1), variable(1), cases(1, 1, 0, 1, 2)),
		// Numbers, tags, Ops, Binds, calls, Kinds, too many Kids and too few.
		def(1, num(32768)), def(1, num(-32769)), def(1, con(100)), def(1, con(-1)), def(1, num(1), num(1), prims(5, 0, 1)), def(1, num(1), num(1), prims(-1, 0, 1)), def(1, num(1), num(1), num(1), cases(100, 0, 0, 1, 2)), def(1, num(1), num(1), num(1), cases(1, 4, 0, 1, 2)), def(1, num(1), num(1), num(1), cases(1, -1, 0, 1, 2)),
		def(1, call(8)), def(1, call(-1)), def(1, call(math.MaxInt)), def(1, call(2)), def(1, num(1), call(0, 0)), def(1, call(1)), def(1, num(1), num(1), call(1, 0, 1)),
		def(1, part(-1, 0, 0)), def(1, part(8, 0, 0)), def(1, part(math.MinInt, 0, 0)), def(1, part(api.ExprError, 1, 0)), def(1, part(api.ExprNum, 1, 1)), def(1, num(1), part(api.ExprNum, 1, 0, 0)),
		def(1, num(1), part(api.ExprPrim, 0, 0, 0)), def(1, num(1), num(1), part(api.ExprCase, 0, 0, 0, 1)), def(1, num(1), part(api.ExprLet, 0, 0, 0)), def(1, num(1), num(1), part(api.ExprLet, 1, 0, 0, 1)), def(1, num(1), num(1), num(1), num(1), con(1, 0, 1, 2, 3)),
	}
}

// TestP11_1WrongPrograms: a program that may not be, though main is not what is wrong.
func TestP11_1WrongPrograms(t *testing.T) {
	for _, wrong := range wrongDefs() {
		for _, fuel := range append(badFuels(), 0, 1, 7, maxFuel) {
			refused(t, programOf(def(0, num(1)), wrong), fuel)
			refused(t, programOf(def(0, num(1)), def(1, variable(0)), wrong), fuel)
			refused(t, programOf(wrong), fuel)
			refused(t, programOf(def(0, num(1), call(1, 0)), wrong), fuel)
		}
		// The same without it.
		turns(t, programOf(def(0, num(1)), def(1, variable(0))), 1, "-1 f0 = 1")
	}
	for _, p := range []api.Program{{}, {Defs: []api.Def{}}, programOf(def(1, variable(0))), programOf(def(1, num(1)), def(0, num(1))), programOf(def(0, call(1))), programOf(def(0, call(1)), def(1, num(1))), programOf(def(0, num(1), call(1, 0)), def(0, num(1))), programOf(slices.Repeat([]api.Def{def(0, num(1))}, maxDefs+1)...)} {
		for _, fuel := range append(badFuels(), 0, 1, 7, maxFuel) {
			refused(t, p, fuel)
		}
	}
}

// TestP11_1Great: what is far too great, or leads round, is refused, and soon (R1).
func TestP11_1Great(t *testing.T) {
	const size = 1 << 20
	refused(t, api.Program{Defs: make([]api.Def, size)}, 5)
	refused(t, programOf(def(0, make([]api.Expr, size)...)), 5)
	refused(t, programOf(def(0, num(1), con(1, make([]int, size)...))), 5)
	refused(t, programOf(def(0, con(1, 1), con(1, 0))), 5)
}

// bytesOf: how much memory a run takes.
func bytesOf(p api.Program) uint64 {
	var before, after runtime.MemStats
	runtime.ReadMemStats(&before)
	need.Run(p, maxFuel)
	runtime.ReadMemStats(&after)
	return after.TotalAlloc - before.TotalAlloc
}

// TestP11_1SharedParts: what shares its parts again and again is shown, and told, or found too long, soon, and in memory far below the limits of all of it (R1).
func TestP11_1SharedParts(t *testing.T) {
	const defs = "\n(def 1 (@1 $0 $0 $0))\n(def 1 (f1 (f1 (f1 (f1 (f1 (f1 (f1 (f1 (f1 (f1 (f1 (f1 (f1 (f1 (f1 (f1 (f1 (f1 (f1 (f1 (f1 (f1 $0)))))))))))))))))))))))\n(def 1 (case $0 @1 3 (f3 $2) $0))\n(def 3 (case $0 @1 3 (f4 $3 $0 $1) (f4 $1 $2 $0)))"
	for _, c := range []struct {
		s     string
		steps int
		want  string
	}{
		{nested("f1", 5, "7"), 11, ""}, {nested("f1", 6, "7"), 13, tooLong}, {nested("f2", 1, "7"), 46, tooLong}, {nested("f2", 8, "7"), 8*45 + 1, tooLong}, {nested("f2", 8, "error"), 8*45 + 1, tooLong}, {nested("f2", 8, nested("f1", 15, "7")), 391, tooLong}, {nested("f2", 9, "7"), endless, ""},
		// Gone down, and not shown.
		{"(f3 " + nested("f2", 2, "7") + ")", 0, tooLong}, {"(f3 " + nested("f1", 5, "7") + ")", 0, ""}, {"(let " + nested("f2", 8, "7") + " (case $0 @1 3 5 6))", 7, "-1 f0 = 5; 0 f2 _ = @1(_ _ _); 1 f1 _ = @1(_ _ _)"},
		{"(f4 " + nested("f2", 8, "7") + " 1 2)", endless, ""},
	} {
		p := parsed(t, "(def 0 "+c.s+")"+defs)
		steps, want := meant(p)
		if c.steps > 0 && c.steps != steps || c.want != "" && c.want != want || c.want == "" && want == tooLong {
			t.Errorf("%s takes %d steps, and then %s", c.s, steps, want)
		}
		if took := bytesOf(p); took > 1<<22 {
			t.Errorf("%s takes %d bytes", c.s, took)
		}
		turns(t, p, steps, want)
	}
	// Forty calls hand the same two on, 180 constructors deep.
	p := parsed(t, "(def 0 (let "+nested("f2", 9, "0")+" (@1 (f1 "+nested("f2", 2, "0")+" $0 $0) $0)))\n(def 3 (case $0 @1 1 (f1 $3 $1 $2) 0))\n(def 1 "+nested("@1", 20, "$0")+")")
	steps, want := meant(p)
	if took := bytesOf(p); took > 1<<22 || len(want) < 1<<16 {
		t.Errorf("%d bytes of trail take %d bytes", len(want), took)
	}
	turns(t, p, steps, want)
}

// tree is a part of a body with all that is in it, in the call of some node, at so many levels; or what was put in for a variable.
type tree struct {
	kind, num, bind, there, node int
	kids                         []*tree
	box                          *box
}

// put is a kind of tree beside the Exprs.
const put = -1

// box is what stands somewhere: a tree that was not opened so far, or how its term begins, and its parts.
type box struct {
	x    *tree
	sign string
	kids []*box
	size int
}

// grow: the tree of a body's part.
func grow(body []api.Expr, at, there, node int) *tree {
	e := body[at]
	x := &tree{kind: e.Kind, num: e.Num, bind: e.Bind, there: there, node: node}
	for i, k := range e.Kids {
		more := 0
		if i == 1 {
			more = map[int]int{api.ExprCase: e.Bind, api.ExprLet: 1}[e.Kind]
		}
		x.kids = append(x.kids, grow(body, k, there+more, node))
	}
	return x
}

// with: the tree, and in place of each variable of that level what stands there.
func (x *tree) with(level int, there *box) *tree {
	if x.kind == api.ExprVar && x.num == level {
		return &tree{kind: put, box: there}
	}
	y := *x
	y.kids = nil
	for _, k := range x.kids {
		y.kids = append(y.kids, k.with(level, there))
	}
	return &y
}

// boxed: a tree as what stands somewhere; what was put in is in a box already.
func boxed(x *tree) *box {
	if x.kind == put {
		return x.box
	}
	return &box{x: x, sign: "_"}
}

// boxes: each one boxed.
func boxes(all []*tree) []*box {
	var out []*box
	for _, x := range all {
		out = append(out, boxed(x))
	}
	return out
}

// made is a node in the making.
type made struct {
	fun, parent int
	args        []*box
	result      *box
}

// slow runs by putting boxes in, in place of levels.
type slow struct {
	p     api.Program
	steps int
	nodes []made
}

// enter makes a node.
func (s *slow) enter(fun, parent int, args []*box) *box {
	d := s.p.Defs[fun]
	x := grow(d.Body, len(d.Body)-1, d.Params, len(s.nodes))
	for i, a := range args {
		x = x.with(i, a)
	}
	s.nodes = append(s.nodes, made{fun, parent, args, &box{x: x, sign: "_"}})
	return s.nodes[len(s.nodes)-1].result
}

// open: is a box open, as far as its first sign? It is not, if the fuel ran out.
func (s *slow) open(b *box) bool {
	if b.x == nil {
		return true
	}
	sign, kids, ok := s.head(b.x)
	if ok {
		b.x, b.sign, b.kids = nil, sign, kids
	}
	return ok
}

// head: the first sign of what comes of a tree, and its parts; false, if the fuel ran out.
func (s *slow) head(x *tree) (string, []*box, bool) {
	if s.steps == maxFuel {
		s.steps = endless
	}
	if s.steps == endless {
		return "", nil, false
	}
	s.steps++
	switch x.kind {
	case put:
		ok := s.open(x.box)
		return x.box.sign, x.box.kids, ok
	case api.ExprNum:
		return strconv.Itoa(x.num), nil, true
	case api.ExprCall:
		b := s.enter(x.num, x.node, boxes(x.kids))
		ok := s.open(b)
		return b.sign, b.kids, ok
	case api.ExprCon:
		return "@" + strconv.Itoa(x.num), boxes(x.kids), true
	case api.ExprPrim:
		return s.headOfPrim(x)
	case api.ExprCase:
		sign, kids, ok := s.head(x.kids[0])
		if !ok || sign == "!" {
			return sign, nil, ok
		}
		if sign != "@"+strconv.Itoa(x.num) || len(kids) != x.bind {
			return s.head(x.kids[2])
		}
		y := x.kids[1]
		for i, k := range kids {
			y = y.with(x.there+i, k)
		}
		return s.head(y)
	case api.ExprLet:
		return s.head(x.kids[1].with(x.there, boxed(x.kids[0])))
	}
	return "!", nil, true
}

// headOfPrim: the sign of an operation, by the words of chapter 1.
func (s *slow) headOfPrim(x *tree) (string, []*box, bool) {
	var nums []int
	for _, k := range x.kids {
		sign, _, ok := s.head(k)
		if !ok {
			return "", nil, false
		}
		n, err := strconv.Atoi(sign)
		if err != nil {
			return "!", nil, true
		}
		nums = append(nums, n)
	}
	n := 0
	switch a, b := nums[0], nums[1]; {
	case x.num == api.OpAdd:
		n = a + b
	case x.num == api.OpSub:
		n = a - b
	case x.num == api.OpMul:
		n = a * b
	case x.num == api.OpEq && a == b, x.num == api.OpLess && a < b:
		n = 1
	}
	for ; n > maxNum; n -= 65536 {
	}
	for ; n < -maxNum-1; n += 65536 {
	}
	return strconv.Itoa(n), nil, true
}

// show opens all that a box holds: it keeps those that wait, the next one last. Not one that was met ahead: all in it was opened then, or is just being opened.
func (s *slow) show(b *box) bool {
	waiting, met := []*box{b}, map[*box]bool{}
	for len(waiting) > 0 {
		b := waiting[len(waiting)-1]
		waiting = waiting[:len(waiting)-1]
		if met[b] {
			continue
		}
		met[b] = true
		if !s.open(b) {
			return false
		}
		if b.sign == "!" {
			return true
		}
		for _, k := range slices.Backward(b.kids) {
			waiting = append(waiting, k)
		}
	}
	return true
}

// bytes: how many a box's term has, or far too many.
func (b *box) bytes() int {
	if b.size == 0 {
		b.size = len(b.sign)
		if len(b.kids) > 0 {
			b.size += 1 + len(b.kids)
		}
		for _, k := range b.kids {
			b.size = min(b.size+k.bytes(), 1<<20)
		}
	}
	return b.size
}

// term: a box's term, if it is not too long.
func (b *box) term() string {
	var kids []string
	for _, k := range b.kids {
		kids = append(kids, k.term())
	}
	if len(kids) == 0 {
		return b.sign
	}
	return b.sign + "(" + strings.Join(kids, " ") + ")"
}

// meant: how many steps a program takes, and its trail; one step more than MaxFuel, if it runs out with that.
func meant(p api.Program) (int, string) {
	s := slow{p: p}
	if !s.show(s.enter(0, -1, nil)) {
		return endless, ""
	}
	var lines []string
	for _, m := range s.nodes {
		text := strconv.Itoa(m.parent) + " f" + strconv.Itoa(m.fun)
		for i, b := range append(slices.Clone(m.args), m.result) {
			if b.bytes() > maxTerm {
				return s.steps, tooLong
			}
			if i == len(m.args) {
				text += " ="
			}
			text += " " + b.term()
		}
		lines = append(lines, text)
	}
	return s.steps, strings.Join(lines, "; ")
}

// agrees holds Run against meant, with the fuels at which something may turn; layer 6 says which programs may be.
func agrees(t *testing.T, p api.Program) (int, string) {
	t.Helper()
	if !program.May(p) {
		refused(t, p, 0)
		refused(t, p, 7)
		refused(t, p, maxFuel)
		return 0, "refused"
	}
	steps, want := meant(p)
	turns(t, p, steps, want)
	refused(t, p, -1)
	refused(t, p, maxFuel+1)
	return steps, want
}

// nodesIn: how many nodes a trail tells of.
func nodesIn(want string) int {
	return strings.Count(want, "f")
}

// TestP11_1EachShortBody: all bodies of a few small parts, handed some things.
func TestP11_1EachShortBody(t *testing.T) {
	count := map[string]int{}
	ask := func(body []api.Expr) {
		for _, main := range [][]api.Expr{
			{num(7), fails(), call(1, 0, 1)}, {num(5), call(3, 0), num(7), con(1, 1, 2), con(1), call(1, 3, 4)},
			// One thing at both levels.
			{num(5), call(3, 0), con(1, 1), variable(0), variable(0), call(1, 3, 4), let(2, 5)},
		} {
			steps, want := agrees(t, programOf(def(0, main...), def(2, body...), def(2, variable(1)), def(1, variable(0))))
			switch {
			case want == "refused":
				count[want]++
				return
			case want == "":
				count["runs out"]++
			case nodesIn(want) > 2:
				count["nodes"]++
			case steps > 0:
				count["none"]++
			}
		}
	}
	var more func(body []api.Expr, left int)
	more = func(body []api.Expr, left int) {
		ask(body)
		if left == 0 {
			return
		}
		add := func(e api.Expr) { more(append(slices.Clone(body), e), left-1) }
		for _, e := range []api.Expr{num(-1), variable(0), variable(1), variable(2), call(0), con(1), fails()} {
			add(e)
		}
		for a := range len(body) {
			add(call(3, a))
			add(con(1, a))
			for b := range len(body) {
				if a == b {
					continue
				}
				add(con(1, a, b))
				add(prims(0, a, b))
				add(let(a, b))
				add(call(1, a, b))
				add(call(2, a, b))
				for c := range len(body) {
					if c != a && c != b {
						add(cases(1, 1, a, b, c))
						add(cases(1, 0, a, b, c))
					}
				}
			}
		}
	}
	more(nil, 3)
	for _, e := range []api.Expr{num(7), variable(0), variable(1), variable(2)} {
		more([]api.Expr{variable(0), variable(1), e}, 2)
		more([]api.Expr{variable(0), e, variable(0)}, 2)
	}
	for _, what := range []string{"refused", "runs out", "nodes", "none"} {
		if count[what] < 250 {
			t.Errorf("%v", count)
		}
	}
}

// moved: the parts in another row; the part that stood at i goes to row[i].
func moved(d api.Def, row []int) api.Def {
	body := make([]api.Expr, len(d.Body))
	for i, e := range d.Body {
		var kids []int
		for _, k := range e.Kids {
			kids = append(kids, row[k])
		}
		e.Kids = kids
		body[row[i]] = e
	}
	return api.Def{Params: d.Params, Body: body}
}

// mixed: each body's parts in another row by chance, each still behind its Kids.
func mixed(r *rand.Rand, p api.Program) api.Program {
	var out api.Program
	for _, d := range p.Defs {
		row := slices.Repeat([]int{-1}, len(d.Body))
		for next := range row {
			var free []int
			for at, e := range d.Body {
				if row[at] < 0 && !slices.ContainsFunc(e.Kids, func(k int) bool { return row[k] < 0 }) {
					free = append(free, at)
				}
			}
			row[free[r.IntN(len(free))]] = next
		}
		out.Defs = append(out.Defs, moved(d, row))
	}
	return out
}

// mostly: that one, or by chance another one from 0 on.
func mostly(r *rand.Rand, n, below int) int {
	if r.IntN(4) > 0 {
		return n
	}
	return r.IntN(below)
}

// grown: an expression's text by chance, in a program whose definitions have so many Params, with at most so much in it. Tag 1 with two parts is looked for, and there, more often than others; main is called seldom, as that does not end.
func grown(r *rand.Rand, params []int, levels, deep int) string {
	kind := r.IntN(12)
	if deep == 0 {
		kind = []int{api.ExprNum, api.ExprVar, api.ExprVar, api.ExprVar, 8}[r.IntN(5)]
	}
	some := func(n, more int) string {
		s := ""
		for range n {
			s += " " + grown(r, params, levels+more, deep-1)
		}
		return s
	}
	tag := "@" + strconv.Itoa(mostly(r, 1, 3))
	switch {
	case kind == api.ExprVar && levels > 0:
		return "$" + strconv.Itoa(r.IntN(levels))
	case kind == api.ExprCall || kind == 9:
		f := r.IntN(len(params))
		if f == 0 && r.IntN(8) > 0 {
			f = len(params) - 1
		}
		return "(f" + strconv.Itoa(f) + some(params[f], 0) + ")"
	case kind == api.ExprCon || kind == 10:
		return "(" + tag + some(1+mostly(r, 1, maxKids), 0) + ")"
	case kind == api.ExprPrim:
		return "(" + string("+-*=<"[r.IntN(5)]) + some(2, 0) + ")"
	case kind == api.ExprCase || kind == 11:
		bind := min(mostly(r, 2, maxKids+1), maxLevels-levels)
		return "(case" + some(1, 0) + " " + tag + " " + strconv.Itoa(bind) + some(1, bind) + some(1, 0) + ")"
	case kind == api.ExprLet && levels < maxLevels:
		return "(let" + some(1, 0) + some(1, 1) + ")"
	case kind == api.ExprError && r.IntN(8) == 0:
		return "error"
	case kind == 8:
		return tag
	}
	return strconv.Itoa([]int{0, 1, 2, -7, maxNum, -maxNum - 1}[r.IntN(6)])
}

// looked: an expression's text by chance, that looks at the first parameter, and may go on with a part of it.
func looked(r *rand.Rand, params []int, own, deep int) string {
	bind := 1 + mostly(r, 1, maxKids)
	again := "(f" + strconv.Itoa(own) + " $" + strconv.Itoa(params[own]+r.IntN(bind))
	for range params[own] - 1 {
		again += " " + grown(r, params, params[own]+bind, deep-1)
	}
	op := string("+-*=<"[r.IntN(5)])
	first := "$" + strconv.Itoa(params[own])
	again = []string{again + ")", "(" + op + " " + again + ") " + again + "))", "(" + op + " " + first + " " + again + "))", "(@1 " + first + " " + again + "))", "(let " + again + ") " + grown(r, params, params[own]+bind+1, deep-1) + ")"}[r.IntN(5)]
	return "(case $0 @" + strconv.Itoa(mostly(r, 1, 3)) + " " + strconv.Itoa(bind) + " " + again + " " + grown(r, params, params[own], deep) + ")"
}

// listed: a list's text by chance, with expressions in it.
func listed(r *rand.Rand, params []int) string {
	s := []string{"@0", "0", "@1", "error"}[mostly(r, 0, 4)]
	for range r.IntN(4) {
		s = "(@1 " + grown(r, params, 0, 1) + " " + s + ")"
	}
	return s
}

// anyBody: a definition's expression by chance.
func anyBody(r *rand.Rand, params []int, own int) string {
	switch {
	case own > 0 && params[own] > 0 && r.IntN(2) == 0:
		return looked(r, params, own, 2)
	case own > 0 || len(params) == 1 || r.IntN(4) == 0:
		return grown(r, params, params[own], 1+r.IntN(4))
	}
	// Main calls another one.
	f := 1 + r.IntN(len(params)-1)
	s := "(f" + strconv.Itoa(f)
	for range params[f] {
		s += " " + []string{listed(r, params), grown(r, params, 0, 2)}[r.IntN(2)]
	}
	return s + ")"
}

// Sorts of what stands at a level, or comes of an expression: a number; a list of these; the rest of a definition's own list.
const (
	aNumber = iota
	aList
	aRest
)

// fitting makes expressions in which numbers and lists stand where such are asked for, so that little fails: of each definition it holds the sorts of its parameters, and what comes of it.
type fitting struct {
	r       *rand.Rand
	params  [][]int
	results []int
	own     int
}

// leaf: an expression without others in it.
func (g *fitting) leaf(sort int) string {
	switch {
	case g.r.IntN(100) == 0:
		return "error"
	case sort == aList:
		return "@0"
	}
	return strconv.Itoa(g.r.IntN(20) - 5)
}

// call: a call of a definition behind its own one, or of its own with the rest of its list; a leaf, if there is none.
func (g *fitting) call(sort int, levels []int, deep int) string {
	var takers []int
	for f, result := range g.results {
		if result == sort && (f > g.own || f == g.own && slices.Contains(levels, aRest)) {
			takers = append(takers, f)
		}
	}
	if len(takers) == 0 {
		return g.leaf(sort)
	}
	f := takers[g.r.IntN(len(takers))]
	s := "(f" + strconv.Itoa(f)
	for i, of := range g.params[f] {
		if f == g.own && i == 0 {
			s += " $" + strconv.Itoa(slices.Index(levels, aRest))
		} else {
			s += " " + g.of(of, levels, deep-1)
		}
	}
	return s + ")"
}

// of: an expression of that sort.
func (g *fitting) of(sort int, levels []int, deep int) string {
	var there []string
	for i, of := range levels {
		if of == sort || of == aRest && sort == aList {
			there = append(there, "$"+strconv.Itoa(i))
		}
	}
	kind := g.r.IntN(12)
	if deep == 0 {
		kind = g.r.IntN(4)
	}
	switch {
	case kind < 4 && len(there) > 0:
		return there[g.r.IntN(len(there))]
	case kind < 4:
		return g.leaf(sort)
	case kind < 8:
		return g.call(sort, levels, deep)
	case kind == 8 && len(levels) < maxLevels:
		some := g.r.IntN(2)
		return "(let " + g.of(some, levels, deep-1) + " " + g.of(sort, append(slices.Clone(levels), some), deep-1) + ")"
	case kind == 9 && len(levels) < maxLevels-1:
		return "(case " + g.of(aList, levels, deep-1) + " @1 2 " + g.of(sort, append(slices.Clone(levels), aNumber, aList), deep-1) + " " + g.of(sort, levels, deep-1) + ")"
	case sort == aList:
		return "(@1 " + g.of(aNumber, levels, deep-1) + " " + g.of(aList, levels, deep-1) + ")"
	}
	return "(" + string("+-*=<"[g.r.IntN(5)]) + " " + g.of(aNumber, levels, deep-1) + " " + g.of(aNumber, levels, deep-1) + ")"
}

// body: a definition's expression. Main's is a pair of things that stand at its levels, or something else.
func (g *fitting) body() string {
	sorts := g.params[g.own]
	if g.own == 0 {
		levels, list := []int{aList, aNumber}, "@0"
		for range g.r.IntN(5) {
			list = "(@1 " + g.of(aNumber, nil, 1) + " " + list + ")"
		}
		return "(let " + list + " (let " + g.of(aNumber, []int{aList}, 1) + " " + []string{g.call(aList, levels, 2), g.call(aNumber, levels, 2), "(@9 " + g.call(aList, levels, 1) + " " + g.call(aNumber, levels, 1) + ")"}[g.r.IntN(3)] + "))"
	}
	if len(sorts) == 0 || sorts[0] != aList {
		return g.of(g.results[g.own], sorts, 3)
	}
	sort, levels := g.results[g.own], append(slices.Clone(sorts), aNumber, aRest)
	some := g.of(sort, levels, 3)
	switch {
	case g.r.IntN(3) == 0:
	case sort == aList:
		some = "(@1 " + g.of(aNumber, levels, 1) + " " + g.call(aList, levels, 1) + ")"
	default:
		some = "(+ " + g.of(aNumber, levels, 1) + " " + g.call(aNumber, levels, 1) + ")"
	}
	return "(case $0 @1 2 " + some + " " + g.of(sort, sorts, 1) + ")"
}

// byChance: a program by chance.
func byChance(r *rand.Rand) api.Program {
	g := &fitting{r: r, params: [][]int{nil}, results: []int{aList}}
	params := []int{0}
	var p api.Program
	for range mostly(r, 4+r.IntN(3), maxDefs) {
		params = append(params, r.IntN(maxParams+1))
	}
	for _, n := range params {
		p.Defs = append(p.Defs, def(n, num(1)))
		g.results = append(g.results, r.IntN(2))
		var sorts []int
		for range n {
			sorts = append(sorts, []int{aList, aNumber, aList}[r.IntN(3)])
		}
		g.params = append(g.params, sorts)
	}
	g.params, g.results = g.params[1:], g.results[1:]
	fits := r.IntN(3) > 0
	for own, n := range params {
		for {
			body := anyBody(r, params, own)
			if g.own = own; fits {
				body = g.body()
			}
			s, e := show.Text(p)
			lines := strings.SplitAfter(s, "\n")
			lines[own] = "(def " + strconv.Itoa(n) + " " + body + ")\n"
			// Parse refuses a body of too many parts.
			if q, f := parse.Parse(strings.Join(lines, "")); e == api.OK && f == api.OK {
				p = q
				break
			}
		}
	}
	return p
}

// TestP11_1ByChance: programs by chance, the parts in any row.
func TestP11_1ByChance(t *testing.T) {
	r := rand.New(rand.NewPCG(11, 2))
	count := map[string]int{}
	for range 12000 {
		p := byChance(r)
		if r.IntN(2) == 0 {
			p = mixed(r, p)
		}
		steps, want := agrees(t, p)
		count[kindOf(want)]++
		for _, n := range []int{2, 3, 5, 10, 20} {
			if nodesIn(want) >= n {
				count[strconv.Itoa(n)]++
			}
		}
		if strings.Contains(want, "_") {
			count["holes"]++
		}
		if steps > 20 && steps <= maxFuel {
			count["long"]++
		}
	}
	for what, least := range map[string]int{"": 250, "!": 400, "number": 2000, "@": 2000, "2": 5000, "3": 3000, "5": 1500, "10": 300, "20": 60, "holes": 2000, "long": 1000} {
		if count[what] < least {
			t.Errorf("%q came out %d times", what, count[what])
		}
	}
}

// kindOf: what a run came to: how main's result begins.
func kindOf(want string) string {
	if want == "" || want == tooLong || want == "refused" {
		return want
	}
	switch c := strings.TrimPrefix(want, "-1 f0 = ")[0]; {
	case c == '!' || c == '@':
		return string(c)
	}
	return "number"
}

// lists: a program by chance that makes a list and goes through it.
func lists(t *testing.T, r *rand.Rand) api.Program {
	one := func(from ...string) string { return from[r.IntN(len(from))] }
	rest := one("$2", "$2", "$2", "(f1 $2)", "(f2 $2 $1)", "(let $2 $3)", "(case $2 @1 2 $4 @0)")
	first := one("$1", "$1", "(f1 $1)", "(f6 $1)", "(f6 (f6 $1))", "(let (f6 $1) (* $3 $3))", "3", "(@2 $1 (f6 $1))", "(@2 $1 $1)", "(case $2 @1 2 $3 0)")
	again := "(f4 " + rest + ")"
	some := one("(@1 "+first+" "+again+")", "(@1 "+first+" "+again+")", "(@2 "+again+" "+first+" "+again+")", "(let "+again+" (@1 "+first+" $3))", "(let "+again+" (@1 $3 $3))", "(let "+first+" (@2 $3 "+again+" $3))", "(@1 (@1 "+first+" @0) "+again+")", "(case "+again+" @1 2 (@1 $4 $3) "+again+")", "(+ "+first+" "+again+")", "(let "+again+" (+ $3 $3))")
	// f5 makes a list of eight items, the first one in front of what it is given.
	item := func() string {
		return one("1", "2", "-7", "(f6 3)", "$0", "(f1 $0)", "(@1 4 @0)", one("8", "8", "8", "8", "8", "8", "error"))
	}
	list := "$1"
	for range 1 + r.IntN(6) {
		list = "(@1 " + item() + " " + list + ")"
	}
	main := one("@0", "@0", "0", "(@2 1)", "error")
	for range 1 + r.IntN(5) {
		main = "(f5 " + strconv.Itoa(r.IntN(100)) + " " + main + ")"
	}
	main = one("(f4 "+main+")", "(f4 "+main+")", "(f4 (f4 "+main+"))", "(let "+main+" (@9 (f4 $0) $0))", "(let "+main+" (@9 $0 (f4 $0)))", "(case (f4 "+main+") @1 2 $0 @9)", "(case (f4 "+main+") @1 2 $1 @9)")
	p, e := parse.Parse("(def 0 " + main + ")\n(def 1 $0)\n(def 2 $0)\n(def 3 $2)\n(def 1 (case $0 @1 2 " + some + " " + one("0", "0", "$0", "@0", "(f6 2)") + "))\n(def 2 " + list + ")\n(def 1 (+ $0 $0))")
	if e != api.OK {
		return lists(t, r)
	}
	return p
}

// TestP11_1Lists: definitions that make lists of lists, which take up to all steps that there are.
func TestP11_1Lists(t *testing.T) {
	r := rand.New(rand.NewPCG(11, 6))
	count, long, longer, many := map[string]int{}, 0, 0, 0
	for range 4000 {
		steps, want := agrees(t, lists(t, r))
		count[kindOf(want)]++
		if steps > 20 && steps <= maxFuel {
			long++
		}
		if steps > maxFuel/2 && steps <= maxFuel {
			longer++
		}
		if nodesIn(want) > 30 {
			many++
		}
	}
	if count["!"] < 100 || count["@"] < 1000 || count["number"] < 100 || count[""] < 20 || count[tooLong] < 100 || long < 1000 || longer < 100 || many < 200 {
		t.Errorf("%v, only %d took more than 20 steps, %d more than half of all, %d of more than 30 nodes", count, long, longer, many)
	}
}

// TestP11_1OtherRows: wherever the parts stand, their Kids tell what is evaluated.
func TestP11_1OtherRows(t *testing.T) {
	takes(t, programOf(def(0, num(2), num(1), con(9, 1, 0))), 3, "-1 f0 = @9(1 2)")
	takes(t, programOf(def(0, fails(), num(1), con(9, 1, 0))), 3, "-1 f0 = @9(1 !)")
	takes(t, programOf(def(0, num(1), fails(), con(9, 1, 0))), 2, "-1 f0 = @9(! _)")
	takes(t, programOf(def(0, num(3), num(1), num(2), call(1, 1, 2, 0)), def(3, variable(1), variable(0), variable(2), con(9, 2, 1, 0))), 5, "-1 f0 = @9(3 1 2); 0 f1 1 2 3 = @9(3 1 2)")
	r := rand.New(rand.NewPCG(11, 1))
	p := beside(t, "(case (let 1 (@1 (+ $0 5) (f6 6))) @1 2 (let (- $0 $1) (@1 (f3 $0 $1 (* $2 (f2 $2 error))) $0)) 0)")
	steps, want := meant(p)
	if want != "-1 f0 = @1(36 6); 0 f3 6 12 36 = 36; 0 f6 6 = 12; 0 f2 -6 _ = -6" {
		t.Errorf("%d steps: %s", steps, want)
	}
	for range 300 {
		turns(t, mixed(r, p), steps, want)
	}
}

// changed: one thing else, by chance, in memory of its own.
func changed(r *rand.Rand, p api.Program) api.Program {
	p = mixed(r, p)
	d := &p.Defs[r.IntN(len(p.Defs))]
	e := &d.Body[r.IntN(len(d.Body))]
	odd := []int{-32769, -32768, -1, 0, 1, 2, 3, 4, 5, 7, 8, 9, 99, 100, 32767, 32768, math.MinInt, math.MaxInt}
	switch r.IntN(8) {
	case 0:
		e.Kind = r.IntN(10) - 1
	case 1, 2:
		e.Num = odd[r.IntN(len(odd))]
	case 3:
		e.Bind = r.IntN(6) - 1
	case 4:
		e.Kids = append(e.Kids, r.IntN(len(d.Body)+2)-1)
	case 5:
		if len(e.Kids) > 0 {
			e.Kids[r.IntN(len(e.Kids))] = r.IntN(len(d.Body)+2) - 1
		}
	case 6:
		d.Params = r.IntN(6) - 1
	default:
		p.Defs = p.Defs[:len(p.Defs)-1]
	}
	return p
}

// TestP11_1Changed: programs with one thing else.
func TestP11_1Changed(t *testing.T) {
	r := rand.New(rand.NewPCG(11, 3))
	count := map[string]int{}
	for range 8000 {
		_, want := agrees(t, changed(r, byChance(r)))
		count[kindOf(want)]++
	}
	if count["refused"] < 4000 || count["number"] < 250 || count["@"] < 250 || count["!"] < 100 || count[""] < 50 {
		t.Errorf("%v", count)
	}
}

// each goes through programs by chance that end, and their nodes.
func each(t *testing.T, r *rand.Rand, times int, f func(p api.Program, ns []api.Node)) {
	t.Helper()
	for i := range times {
		p := byChance(r)
		if i%8 == 0 {
			p = lists(t, r)
		}
		if ns, e := need.Run(p, maxFuel); e == api.OK {
			f(p, ns)
		}
	}
}

// TestP11_2Holds: each node of a run holds by layer 10, or its fuel runs out there.
func TestP11_2Holds(t *testing.T) {
	held, out := 0, 0
	hold := func(p api.Program, ns []api.Node) {
		for i, n := range ns {
			is, e := holds.Is(p, n, maxFuel)
			if !is && e != api.ErrHoldsFuel {
				t.Fatalf("node %d of %s does not hold, %d: %s", i, told(p), e, line(n))
			}
			if is {
				held++
			} else {
				out++
			}
		}
	}
	each(t, rand.New(rand.NewPCG(11, 7)), 12000, hold)
	if held < 20000 || out < 20 {
		t.Errorf("only %d nodes held, %d ran out", held, out)
	}
	// Where the fuel does not run out there, as nothing is needed twice.
	for _, s := range []string{"7", "error", "(f1 (f1 7))", "(@1 (f1 7) (f5) (f1 8))", "(f7 (f1 1) (f6 2))", "(case (f7 (f1 1) (f6 2)) @1 2 (@9 $1) 0)", "(f3 (f4 1) (f5) (f7 1 2))", "(+ 1 (f7 (f1 1) 2))"} {
		ns, e := need.Run(beside(t, s), maxFuel)
		if e != api.OK {
			t.Fatalf("%s: %d", s, e)
		}
		for _, n := range ns {
			if is, e := holds.Is(beside(t, s), n, maxFuel); !is || e != api.OK {
				t.Errorf("%s: %s does not hold, %d", s, line(n), e)
			}
		}
	}
}

// otherwise: a term by chance, of no more than a few parts.
func otherwise(r *rand.Rand, deep int) string {
	if deep == 0 || r.IntN(2) == 0 {
		return []string{"0", "7", "-32768", "!", "@0", "@1"}[r.IntN(6)]
	}
	kids := []string{otherwise(r, deep-1), otherwise(r, deep-1), otherwise(r, deep-1)}
	return "@" + strconv.Itoa(mostly(r, 1, 3)) + "(" + strings.Join(kids[:1+mostly(r, 1, maxKids)], " ") + ")"
}

// filled: a term, with something else in place of its holes.
func filled(r *rand.Rand, s string) string {
	var out strings.Builder
	for _, c := range s {
		if c == '_' {
			out.WriteString(otherwise(r, 2))
		} else {
			out.WriteRune(c)
		}
	}
	return out.String()
}

// TestP11_2WhateverStandsInTheHoles: each node holds so, too, as what was not evaluated was not needed.
func TestP11_2WhateverStandsInTheHoles(t *testing.T) {
	r := rand.New(rand.NewPCG(11, 8))
	count := 0
	each(t, r, 6000, func(p api.Program, ns []api.Node) {
		for i, n := range ns {
			other := n
			other.Args = slices.Clone(n.Args)
			for k, a := range n.Args {
				if s := filled(r, a); term.May(s) {
					other.Args[k] = s
				}
			}
			if slices.Equal(n.Args, other.Args) {
				continue
			}
			count++
			if is, e := holds.Is(p, other, maxFuel); !is && e != api.ErrHoldsFuel {
				t.Fatalf("node %d of %s does not hold as %s, but was %s", i, told(p), line(other), line(n))
			}
		}
	})
	if count < 2000 {
		t.Errorf("only %d", count)
	}
}

// TestP11_2NoMoreStepsThanByName: the first node is what is meant by main, and takes no more steps than by name.
func TestP11_2NoMoreStepsThanByName(t *testing.T) {
	count, more := 0, 0
	each(t, rand.New(rand.NewPCG(11, 9)), 6000, func(p api.Program, ns []api.Node) {
		head, e := name.Head(p, 0, nil, maxFuel)
		kind, num, kids, _ := term.Cut(ns[0].Result)
		text, _ := term.Make(kind, num, slices.Repeat([]string{"_"}, len(kids)))
		if e == api.OK && head != text {
			t.Fatalf("%s came to %s, and %s is meant", told(p), ns[0].Result, head)
		}
		steps, _ := meant(p)
		// With a step less than by need, it runs out by name.
		if is, e := holds.Is(p, ns[0], steps-1); is || e != api.ErrHoldsFuel {
			t.Fatalf("%s takes %d steps, and fewer by name: %t, %d", told(p), steps, is, e)
		}
		count++
		if is, _ := holds.Is(p, ns[0], steps); !is {
			more++
		}
	})
	if count < 3000 || more < 1000 {
		t.Errorf("only %d, %d of these take more by name", count, more)
	}
}

// TestP11_1AnswersAreNew: what is done to an answer, its spare room too, turns neither the program, nor another answer, nor another list of its own (R4).
func TestP11_1AnswersAreNew(t *testing.T) {
	for _, s := range []string{"7", "(f7 (f1 1) (f6 2))", "(let (f7 1 2) (@1 (f3 $0 $0 $0) (f2 $0 $0) (f7 $0 $0)))", "(f3 (f5) (f4 1) (f7 (f7 1 2) (f1 3)))"} {
		p := beside(t, s)
		before := told(p)
		first, e := need.Run(p, maxFuel)
		second, f := need.Run(p, maxFuel)
		if e != api.OK || f != api.OK || trail(first) != trail(second) {
			t.Fatalf("%s: %d, %d", s, e, f)
		}
		want := trail(second)
		for i := range first {
			args := first[i].Args[:cap(first[i].Args)]
			for k := range args {
				args[k] = strconv.Itoa(i)
			}
		}
		for i := range first {
			for _, a := range first[i].Args[:cap(first[i].Args)] {
				if a != strconv.Itoa(i) {
					t.Errorf("%s: node %d's list is node %s's, too", s, i, a)
				}
			}
		}
		first = first[:cap(first)]
		for i := range first {
			first[i] = api.Node{Fun: 99, Parent: 99, Result: "99"}
		}
		third, _ := need.Run(p, maxFuel)
		if trail(second) != want || trail(third) != want || told(p) != before {
			t.Errorf("%s: turned to %s, %s", s, trail(second), trail(third))
		}
	}
}

// TestP11_1SpareRoom: what stands behind a list's end is not read; lists may share their memory (R4).
func TestP11_1SpareRoom(t *testing.T) {
	defs := []api.Def{def(0, num(1), num(2), con(3, 0, 1)), def(1, variable(0)), {Params: -1}}
	takes(t, programOf(defs[:2]...), 3, "-1 f0 = @3(1 2)")
	refused(t, programOf(defs...), 1)
	body := []api.Expr{num(1), con(2, 0), call(5), num(99999)}
	takes(t, programOf(def(0, body[:1]...)), 1, "-1 f0 = 1")
	takes(t, programOf(def(0, body[:2]...)), 2, "-1 f0 = @2(1)")
	kids := []int{0, 1, 2, 77}
	takes(t, programOf(def(0, num(3), num(1), num(2), con(9, kids[:3]...)), def(0, num(5), num(6), con(2, kids[:2]...))), 4, "-1 f0 = @9(3 1 2)")
	// One body for all.
	shared := []api.Expr{call(1), call(2), con(7, 0, 1)}
	takes(t, programOf(def(0, shared...), def(0, num(1)), def(0, shared[:1]...)), 6, "-1 f0 = @7(1 1); 0 f1 = 1; 0 f2 = 1; 2 f1 = 1")
}

// TestP11_1NothingLeftBehind: a run that is refused, or another one, turns no later answer, nor leaves anything running (R5).
func TestP11_1NothingLeftBehind(t *testing.T) {
	p := beside(t, "(let (f1 7) (@1 (f6 $0) (f2 $0 (f5)) $0))")
	q := beside(t, "(@1 (f4 (f1 7)))")
	long := beside(t, "(let "+nested("f6", 5, "1")+" (f7 (f7 $0 $0) (f7 $0 $0)))")
	running := runtime.NumGoroutine()
	for range 20 {
		for _, between := range []func(){
			func() { runsOut(t, q) },
			func() { refused(t, api.Program{}, 5) },
			func() { refused(t, p, maxFuel+1) },
			func() { agrees(t, long) },
			func() { takes(t, beside(t, "(f5)"), 2, "-1 f0 = !; 0 f5 = !") },
		} {
			turns(t, p, 11, "-1 f0 = @1(14 7 7); 0 f6 7 = 14; 0 f1 7 = 7; 0 f2 7 _ = 7")
			between()
		}
	}
	if now := runtime.NumGoroutine(); now > running {
		t.Errorf("%d goroutines, and %d ahead of it", now, running)
	}
	// What is changed behind a run turns no answer of it.
	ns, _ := need.Run(p, maxFuel)
	before := trail(ns)
	for i := range p.Defs {
		clear(p.Defs[i].Body)
	}
	if after := trail(ns); after != before {
		t.Errorf("an answer turned to %s", after)
	}
}

// read: a program out of any bytes, each one a small number.
func read(data []byte) api.Program {
	take := func() int {
		if len(data) == 0 {
			return 0
		}
		n := int(int8(data[0]))
		data = data[1:]
		return n
	}
	var p api.Program
	for len(data) > 0 {
		d := api.Def{Params: take()}
		for range min(max(take(), 0), maxBody+2) {
			e := api.Expr{Kind: take(), Num: take(), Bind: take()}
			for range min(max(take(), 0), 5) {
				e.Kids = append(e.Kids, take())
			}
			d.Body = append(d.Body, e)
		}
		p.Defs = append(p.Defs, d)
	}
	return p
}

// written: bytes of which read tells p, if its numbers are small.
func written(p api.Program) []byte {
	var data []byte
	for _, d := range p.Defs {
		data = append(data, byte(d.Params), byte(len(d.Body)))
		for _, e := range d.Body {
			data = append(data, byte(e.Kind), byte(e.Num), byte(e.Bind), byte(len(e.Kids)))
			for _, k := range e.Kids {
				data = append(data, byte(k))
			}
		}
	}
	return data
}

func FuzzP11(f *testing.F) {
	r := rand.New(rand.NewPCG(11, 5))
	for range 200 {
		f.Add(written(mixed(r, byChance(r))), r.IntN(maxFuel+1))
		f.Add(written(changed(r, byChance(r))), r.IntN(maxFuel+2)-1)
	}
	f.Fuzz(func(t *testing.T, data []byte, fuel int) {
		p := read(data)
		steps, want := agrees(t, p)
		if want == "refused" || fuel < 0 || fuel > maxFuel {
			refused(t, p, fuel)
			return
		}
		runs(t, p, steps, want, []int{fuel})
		ns, _ := need.Run(p, maxFuel)
		for _, n := range ns {
			if is, e := holds.Is(p, n, maxFuel); !is && e != api.ErrHoldsFuel {
				t.Fatalf("%s does not hold, %d", line(n), e)
			}
		}
	})
}

// TestP11_1FromSeveralAtOnce: each of several goroutines gets what one alone gets, of one and the same program (R5).
func TestP11_1FromSeveralAtOnce(t *testing.T) {
	good, never := beside(t, "(let (f1 7) (@1 (f6 $0) (f2 $0 (f5)) $0))"), beside(t, "(@1 (f4 (f1 7)))")
	for i := range 8 {
		t.Run(strconv.Itoa(i), func(t *testing.T) {
			t.Parallel()
			for range 30 {
				turns(t, good, 11, "-1 f0 = @1(14 7 7); 0 f6 7 = 14; 0 f1 7 = 7; 0 f2 7 _ = 7")
				turns(t, never, endless, "")
				refused(t, good, maxFuel+1)
			}
		})
	}
}
