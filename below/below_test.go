package below

import (
	"slices"
	"strconv"
	"strings"
	"testing"

	"sleuth/api"
	"sleuth/term"
)

const longest = 1024

// says: Is(a, b) is want, and no error beside it.
func says(t *testing.T, want bool, a, b string) {
	t.Helper()
	if got, e := Is(a, b); got != want || e != api.OK {
		t.Errorf("Is(%.60q, %.60q) = %v, %d, want %v, OK", a, b, got, e, want)
	}
}

// oneWay: a is below b, and not the other way round.
func oneWay(t *testing.T, a, b string) {
	t.Helper()
	says(t, true, a, b)
	says(t, false, b, a)
}

// neither: neither one is below the other.
func neither(t *testing.T, a, b string) {
	t.Helper()
	says(t, false, a, b)
	says(t, false, b, a)
}

// refused: ErrBelowForm, and false beside it (R2).
func refused(t *testing.T, a, b string) {
	t.Helper()
	if got, e := Is(a, b); got || e != api.ErrBelowForm {
		t.Errorf("Is(%.60q, %.60q), of %d and %d bytes, = %v, %d, want false, ErrBelowForm", a, b, len(a), len(b), got, e)
	}
}

// nested puts core into n constructors of tag 1, four bytes each.
func nested(n int, core string) string {
	return strings.Repeat("@1(", n) + core + strings.Repeat(")", n)
}

// everyKind has terms of each of the Terms; none but the hole is below another one.
var everyKind = []string{"_", "0", "7", "-7", "32767", "-32768", "!", "@0", "@7", "@99", "@7(7)", "@7(!)", "@7(7 7)", "@7(7 7 7)", "@7(@7)", "@7(@7 @7)"}

func TestP3_1EachKindAgainstEach(t *testing.T) {
	for _, a := range everyKind {
		for _, b := range everyKind {
			says(t, a == "_" || a == b, a, b)
			says(t, a == "_" || a == b, "@3("+a+")", "@3("+b+")")
			says(t, a == "_" || a == b, "@3(1 "+a+" _)", "@3(1 "+b+" !)")
		}
	}
}

func TestP3_1Holes(t *testing.T) {
	oneWay(t, "_", "0")
	oneWay(t, "_", "!")
	oneWay(t, "_", "@0")
	oneWay(t, "_", "@1(_)")
	oneWay(t, "_", "@1(_ _ _)")
	oneWay(t, "@1(_)", "@1(5)")
	oneWay(t, "@1(_)", "@1(!)")
	oneWay(t, "@1(_)", "@1(@1)")
	oneWay(t, "@1(_)", "@1(@1(_))")
	oneWay(t, "@1(_ 2)", "@1(-1 2)")
	oneWay(t, "@1(2 _)", "@1(2 -1)")
	oneWay(t, "@1(_ _)", "@1(2 -1)")
	oneWay(t, "@1(_ _ 3)", "@1(@2(_ _) @4(5 @6(7 8) 9) 3)")
	oneWay(t, "@1(@2(_ 1) _)", "@1(@2(@3(4 5) 1) 6)")
	oneWay(t, "@1(@2(@3(_)))", "@1(@2(@3(@4)))")
	says(t, true, "_", "_")
	says(t, true, "@1(_ _ _)", "@1(_ _ _)")
	// Each one tells what the other one does not.
	neither(t, "@1(_ 2)", "@1(1 _)")
	neither(t, "@1(_ @2(3))", "@1(1 @2(_))")
	neither(t, "@1(@2(_) 3)", "@1(@2(1) _)")
	neither(t, "@1(_ 2)", "@1(@2(3 4) 5)")
	neither(t, "@1(_)", "@1(2 3)")
	neither(t, "@1(_ _)", "@1(@2(3 4))")
	neither(t, "@1(_)", "@2(_)")
}

func TestP3_1AnotherNumberOrTag(t *testing.T) {
	nums := []string{"0", "1", "-1", "2", "10", "-10", "11", "12", "100", "3276", "32766", "32767", "-3276", "-32767", "-32768"}
	tags := []string{"@0", "@1", "@2", "@9", "@10", "@11", "@12", "@98", "@99"}
	for _, all := range [][]string{nums, tags} {
		for i, a := range all {
			for j, b := range all {
				says(t, i == j, a, b)
				says(t, i == j, "@5("+a+" _)", "@5("+b+" 4)")
				says(t, i == j, "@5(_ "+a+")", "@5(4 "+b+")")
			}
		}
	}
	for i, a := range tags {
		for j, b := range tags {
			says(t, i == j, a+"(_)", b+"(6)")
			says(t, i == j, a+"(_ 1 _)", b+"(6 1 @7(8))")
		}
	}
	for _, a := range nums {
		for _, b := range tags {
			neither(t, a, b)
			neither(t, "@5("+a+")", "@5("+b+")")
		}
	}
}

func TestP3_1HowManyParts(t *testing.T) {
	con := func(part string, n int) string {
		if n == 0 {
			return "@4"
		}
		return "@4(" + strings.Join(slices.Repeat([]string{part}, n), " ") + ")"
	}
	for _, part := range []string{"_", "!", "-5", "@7", "@1(2 @3 4)"} {
		for n := range 4 {
			for m := range 4 {
				says(t, n == m, con("_", n), con(part, m))
				says(t, n == m, con(part, n), con(part, m))
				says(t, n == m, "@1("+con("_", n)+" 1)", "@1("+con(part, m)+" 1)")
				says(t, n == m, "@1(1 "+con("_", n)+")", "@1(1 "+con(part, m)+")")
			}
		}
	}
}

func TestP3_1OneUnlikePart(t *testing.T) {
	unlike := []string{"0", "-1", "!", "@0", "@8(_)", "@8(1 2)"}
	for n := 1; n <= 3; n++ {
		for at := range n {
			for _, a := range unlike {
				for _, b := range unlike {
					one, other := slices.Repeat([]string{"_"}, n), slices.Repeat([]string{"@8(9 !)"}, n)
					one[at], other[at] = a, b
					x, y := "@4("+strings.Join(one, " ")+")", "@4("+strings.Join(other, " ")+")"
					says(t, a == b, x, y)
					for _, shell := range []string{"@1(#)", "@1(# _)", "@1(_ #)", "@1(_ # 2)", "@1(@2(3 @4(#) _) 5)"} {
						says(t, a == b, strings.ReplaceAll(shell, "#", x), strings.ReplaceAll(shell, "#", y))
					}
				}
			}
		}
	}
}

func TestP3_1Deep(t *testing.T) {
	for n := range 256 {
		says(t, true, nested(n, "_"), nested(n, "_"))
		neither(t, nested(n, "7"), nested(n, "8"))
		neither(t, nested(n, "7"), nested(n, "!"))
		oneWay(t, nested(n, "_"), nested(n, "7"))
		for _, fewer := range []int{0, n / 2, n - 1} {
			if 0 <= fewer && fewer < n {
				oneWay(t, nested(fewer, "_"), nested(n, "_"))
				neither(t, nested(fewer, "7"), nested(n, "7"))
			}
		}
	}
}

func TestP3_1LongestTerms(t *testing.T) {
	// The one unlike byte is at the bottom, 765 bytes deep.
	just := nested(255, "9999")
	if len(just) != longest {
		t.Fatalf("a text of %d bytes", len(just))
	}
	says(t, true, just, just)
	neither(t, just, nested(255, "9998"))
	neither(t, just, nested(255, "-999"))
	neither(t, just, nested(255, "@99"))
	oneWay(t, nested(255, "_"), just)
	oneWay(t, "_", just)
	neither(t, just, "@1("+strings.Repeat("@1(", 253)+"@2(9999)"+strings.Repeat(")", 254))

	// Wide ones, the unlike part at the first, the middle and the last place.
	halves := func(first, second string) string { return "@1(" + nested(127, first) + " " + nested(127, second) + ")" }
	wide := halves("-1", "2")
	if len(wide) != longest {
		t.Fatalf("a text of %d bytes", len(wide))
	}
	says(t, true, wide, wide)
	oneWay(t, halves("_", "2"), wide)
	oneWay(t, halves("-1", "_"), wide)
	oneWay(t, halves("_", "_"), wide)
	oneWay(t, "@1(_ _)", wide)
	oneWay(t, "@1(_ "+nested(127, "2")+")", wide)
	oneWay(t, "@1("+nested(127, "-1")+" _)", wide)
	neither(t, halves("_", "3"), wide)
	neither(t, halves("-2", "_"), wide)
	neither(t, "@1(_ "+nested(127, "3")+")", wide)
	neither(t, "@1("+nested(127, "-2")+" _)", wide)
	neither(t, "@1(_)", wide)
	neither(t, "@1(_ _ _)", wide)
}

// noTerms are texts that are no terms.
var noTerms = []string{
	"", " ", "\x00", "\n", "\xff", "é", "a", "hole",
	"__", "_ ", " _", "_\n", "_\x00", "_)", "(_)", "_(_)", "_ _", "!!", "! ", "!(_)",
	"-", "-0", "00", "01", "+1", "1 ", " 1", "1 2", "1)", "1(_)", "32768", "-32769", "99999999999999999999",
	"@", "@_", "@a", "@-1", "@01", "@100", "@1 ", "@1)", "@1(", "@1()", "@1( )", "@1(_", "@1(_ ", "@1(_ )", "@1( _)", "@1(_  _)", "@1 (_)", "@1(_))", "@1((_))", "@1(_)(_)", "@1(_)_", "@1(_) @1(_)", "@1(_ _ _ _)", "@1(__)", "@1(_,_)", "@1(_\n_)", "@1(a)", "@1(-0)", "@1(32768)", "@1(@100)", "@1(@1(_)",
	nested(256, "_"), nested(255, "-9999"), nested(255, "9999") + " ",
	"@1(" + nested(127, "-1") + " " + nested(127, "-1") + ")",
}

func TestP3_1WrongInputs(t *testing.T) {
	for _, s := range noTerms {
		for _, x := range slices.Concat(everyKind, []string{nested(255, "9999"), "@1(_)", "@1(_ _)"}) {
			refused(t, s, x)
			refused(t, x, s)
		}
		for _, other := range noTerms {
			refused(t, s, other)
		}
	}
	if n := len(nested(255, "-9999")); n != longest+1 {
		t.Errorf("a text of %d bytes", n)
	}
}

// TestP3_1WrongBehindANo: what may not be is told even where an earlier byte would have settled the answer.
func TestP3_1WrongBehindANo(t *testing.T) {
	refused(t, "@1(1 2 3 4)", "@2(1 2 3 4)")
	refused(t, "@1(1 x)", "@2(1 2)")
	refused(t, "@1(1 2)", "@2(1 x)")
	refused(t, "5", "6 ")
	refused(t, "_", "@1(_ x)")
	refused(t, "@1(_ 2)", "@1(@3(01) 2)")
	refused(t, "@1(_ 2)", "@1(@3(4)) 2)")
}

// TestP3_1Great: what is far too great is refused as fast as what is a little so (R1).
func TestP3_1Great(t *testing.T) {
	const many = 1 << 22
	for _, s := range []string{"@1(", "@1(@1(_) ", "9", "_", "_ ", ")", "(", " ", "\x00"} {
		great := strings.Repeat(s, many)
		refused(t, great, "_")
		refused(t, "_", great)
		refused(t, great, great)
	}
}

// slow is the chapter's sentence, part by part.
func slow(t *testing.T, a, b string) bool {
	ka, na, pa, ea := term.Cut(a)
	kb, nb, pb, eb := term.Cut(b)
	if ea != api.OK || eb != api.OK {
		t.Fatalf("no terms: %q, %q", a, b)
	}
	if ka == api.TermHole {
		return true
	}
	if ka != kb || na != nb || len(pa) != len(pb) {
		return false
	}
	for i := range pa {
		if !slow(t, pa[i], pb[i]) {
			return false
		}
	}
	return true
}

// agrees holds Is against slow.
func agrees(t *testing.T, a, b string) {
	t.Helper()
	if term.May(a) && term.May(b) {
		says(t, slow(t, a, b), a, b)
		return
	}
	refused(t, a, b)
}

// shortTerms: each term of up to size bytes out of letters.
func shortTerms(letters string, size int) []string {
	var out []string
	var more func(text string)
	more = func(text string) {
		if term.May(text) {
			out = append(out, text)
		}
		if len(text) == size {
			return
		}
		for i := range len(letters) {
			more(text + letters[i:i+1])
		}
	}
	more("")
	return out
}

// eachPair holds Is against slow on all pairs.
func eachPair(t *testing.T, all []string) {
	t.Helper()
	for _, a := range all {
		for _, b := range all {
			agrees(t, a, b)
		}
	}
}

func TestP3_1EachPairOfShortTerms(t *testing.T) {
	eachPair(t, shortTerms("_!@() -019", 6))
}

// grown: all, and the constructors of one and of two of them.
func grown(all []string) []string {
	out := slices.Clone(all)
	for _, a := range all {
		out = append(out, "@1("+a+")")
		for _, b := range all {
			out = append(out, "@1("+a+" "+b+")")
		}
	}
	return out
}

func TestP3_1EachPairOfGrownTerms(t *testing.T) {
	eachPair(t, grown(grown([]string{"_", "1", "@1"})))
}

// samples are terms out of which parts are taken, and into which others are put.
var samples = []string{
	"_", "!", "0", "-32768", "32767", "@0", "@99", "@1(_)", "@10(-1 @2)", "@1(_ _ _)", "@1(@2(1 2) @3(! _ @4))", "@99(@98(@97(@96(9 -9))) 0 32767)", "@1(@1(_ 1 _) @1(1 _ 1) @1(_ _ 1))", nested(9, "@1(_ 2 _)"),
}

// changed: s, and s with each of its parts, however deep, put in turn for by each of others.
func changed(s string, others []string) []string {
	out := append([]string{s}, others...)
	kind, num, parts, _ := term.Cut(s)
	for i, p := range parts {
		for _, q := range changed(p, others) {
			kids := slices.Clone(parts)
			kids[i] = q
			if made, e := term.Make(kind, num, kids); e == api.OK {
				out = append(out, made)
			}
		}
	}
	return out
}

func TestP3_1OnePartElse(t *testing.T) {
	others := []string{"_", "!", "1", "@1", "@1(_)", "@1(_ 2)", "@98(_ 2 _)"}
	for _, s := range samples {
		eachPair(t, changed(s, others))
	}
}

func TestP3_1OneByteElse(t *testing.T) {
	for _, s := range samples {
		for i := range len(s) {
			for c := range 256 {
				near := s[:i] + string([]byte{byte(c)}) + s[i+1:]
				agrees(t, near, s)
				agrees(t, s, near)
				agrees(t, near, near)
				agrees(t, "_", near)
			}
		}
	}
}

// TestP3_1AnOrder: each one is below itself, two below each other are the same, and what is below one is below what that is below.
func TestP3_1AnOrder(t *testing.T) {
	is := func(a, b string) bool {
		yes, e := Is(a, b)
		if e != api.OK {
			t.Fatalf("Is(%q, %q): %d", a, b, e)
		}
		return yes
	}
	all := changed("@1(@2(1 _) @3(! @4))", []string{"_", "1", "@1(_ _)"})
	for _, a := range all {
		if !is(a, a) {
			t.Errorf("%q is not below itself", a)
		}
		for _, b := range all {
			if is(a, b) && is(b, a) && a != b {
				t.Errorf("%q and %q are below each other", a, b)
			}
			for _, c := range all {
				if is(a, b) && is(b, c) && !is(a, c) {
					t.Errorf("%q is below %q, that below %q, but not the first below the last", a, b, c)
				}
			}
		}
	}
}

func FuzzP3_1(f *testing.F) {
	for i, s := range samples {
		f.Add(s, samples[(i+1)%len(samples)])
		f.Add(s, s)
		f.Add("_", s)
	}
	for _, s := range noTerms {
		f.Add(s, "_")
		f.Add("_", s)
	}
	f.Fuzz(agrees)
}

// TestP3_1FromSeveralAtOnce: each of several goroutines gets what one alone gets (R5).
func TestP3_1FromSeveralAtOnce(t *testing.T) {
	for i, s := range samples {
		t.Run(strconv.Itoa(i), func(t *testing.T) {
			t.Parallel()
			for range 50 {
				for _, other := range samples {
					agrees(t, s, other)
				}
			}
		})
	}
}
