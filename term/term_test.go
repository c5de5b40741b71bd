package term

import (
	"math"
	"regexp"
	"slices"
	"strconv"
	"strings"
	"testing"

	"sleuth/api"
)

const (
	least    = -32768
	greatest = 32767
	longest  = 1024
)

// tells: Cut tells these of s, May says yes, and Make gives s again.
func tells(t *testing.T, s string, kind, num int, kids ...string) {
	t.Helper()
	if !May(s) {
		t.Errorf("May(%q) = false", s)
	}
	k, n, parts, e := Cut(s)
	if k != kind || n != num || !slices.Equal(parts, kids) || e != api.OK {
		t.Errorf("Cut(%q) = %d, %d, %q, %d, want %d, %d, %q, OK", s, k, n, parts, e, kind, num, kids)
	}
	if again, e := Make(kind, num, kids); again != s || e != api.OK {
		t.Errorf("Make(%d, %d, %q) = %q, %d, want %q, OK", kind, num, kids, again, e, s)
	}
}

// isNone: s may not be, and Cut tells zero values beside ErrTermForm (R2).
func isNone(t *testing.T, s string) {
	t.Helper()
	if May(s) {
		t.Errorf("May(%.60q), of %d bytes, = true", s, len(s))
	}
	if k, n, parts, e := Cut(s); k != 0 || n != 0 || len(parts) != 0 || e != api.ErrTermForm {
		t.Errorf("Cut(%.60q), of %d bytes, = %d, %d, %q, %d, want zero values and ErrTermForm", s, len(s), k, n, parts, e)
	}
}

// notMade: ErrTermForm, and no text beside it (R2).
func notMade(t *testing.T, kind, num int, kids ...string) {
	t.Helper()
	if s, e := Make(kind, num, kids); s != "" || e != api.ErrTermForm {
		t.Errorf("Make(%d, %d, %.60q) = %.60q, %d, want \"\", ErrTermForm", kind, num, kids, s, e)
	}
}

func TestP2_1ByHand(t *testing.T) {
	tells(t, "_", api.TermHole, 0)
	tells(t, "!", api.TermFail, 0)
	tells(t, "0", api.TermNum, 0)
	tells(t, "7", api.TermNum, 7)
	tells(t, "-7", api.TermNum, -7)
	tells(t, "10", api.TermNum, 10)
	tells(t, "-1000", api.TermNum, -1000)
	tells(t, "@0", api.TermCon, 0)
	tells(t, "@7", api.TermCon, 7)
	tells(t, "@10", api.TermCon, 10)
	tells(t, "@1(_)", api.TermCon, 1, "_")
	tells(t, "@1(!)", api.TermCon, 1, "!")
	tells(t, "@0(0)", api.TermCon, 0, "0")
	tells(t, "@99(@99)", api.TermCon, 99, "@99")
	tells(t, "@2(-1 @3)", api.TermCon, 2, "-1", "@3")
	tells(t, "@2(_ ! 5)", api.TermCon, 2, "_", "!", "5")
	tells(t, "@2(5 5 5)", api.TermCon, 2, "5", "5", "5")
	tells(t, "@1(@2(1 2) @3(_ _ _))", api.TermCon, 1, "@2(1 2)", "@3(_ _ _)")
	tells(t, "@1(_ @2(@3(!) @4) -32768)", api.TermCon, 1, "_", "@2(@3(!) @4)", "-32768")
	tells(t, "@1(@1(@1(@1(@1) 1) 2) 3)", api.TermCon, 1, "@1(@1(@1(@1) 1) 2)", "3")
	tells(t, "@1(3 @1(2 @1(1 @1(@1))))", api.TermCon, 1, "3", "@1(2 @1(1 @1(@1)))")
}

func TestP2_1EachNumber(t *testing.T) {
	for x := least - 70000; x <= greatest+70000; x++ {
		s := strconv.Itoa(x)
		if least <= x && x <= greatest {
			tells(t, s, api.TermNum, x)
		} else {
			isNone(t, s)
			notMade(t, api.TermNum, x)
		}
		if t.Failed() {
			t.Fatalf("at %d", x)
		}
	}
	for _, s := range []string{"4294967297", "-4294967297", "18446744073709551617", "9223372036854775807", "-9223372036854775808", strings.Repeat("9", longest), "-" + strings.Repeat("9", longest-1), strings.Repeat("0", longest)} {
		isNone(t, s)
		isNone(t, "@"+s[1:])
		isNone(t, "@1("+s+")")
	}
}

func TestP2_1EachTag(t *testing.T) {
	for tag := -1100; tag <= 1100; tag++ {
		s := "@" + strconv.Itoa(tag)
		if 0 <= tag && tag <= 99 {
			tells(t, s, api.TermCon, tag)
			tells(t, s+"(_ 1)", api.TermCon, tag, "_", "1")
		} else {
			isNone(t, s)
			isNone(t, s+"(_ 1)")
			isNone(t, "@1("+s+")")
			notMade(t, api.TermCon, tag)
			notMade(t, api.TermCon, tag, "_", "1")
		}
	}
	for _, tag := range []string{"256", "65536", "4294967296", "4294967297", "18446744073709551616", "18446744073709551617"} {
		isNone(t, "@"+tag)
		isNone(t, "@"+tag+"(_)")
	}
}

func TestP2_1NoughtsAhead(t *testing.T) {
	for _, x := range []int{0, 1, 5, 10, 99, 100, 32767} {
		for _, ahead := range []string{"0", "00", "-0", "-00", "+", "+0", "0x", "0_", "--", "- ", "_"} {
			isNone(t, ahead+strconv.Itoa(x))
			isNone(t, "@"+ahead+strconv.Itoa(x))
			isNone(t, "@1("+ahead+strconv.Itoa(x)+")")
			isNone(t, "@1(_ @"+ahead+strconv.Itoa(x)+"(_))")
		}
	}
	tells(t, "0", api.TermNum, 0)
	tells(t, "@0", api.TermCon, 0)
}

func TestP2_1HowManyParts(t *testing.T) {
	for _, part := range []string{"_", "!", "-5", "@7", "@1(_ 2 @3)"} {
		for n := range 9 {
			kids := slices.Repeat([]string{part}, n)
			s := "@4(" + strings.Join(kids, " ") + ")"
			if 1 <= n && n <= 3 {
				tells(t, s, api.TermCon, 4, kids...)
				tells(t, "@5("+s+")", api.TermCon, 5, s)
			} else {
				isNone(t, s)
				isNone(t, "@5("+s+")")
			}
			if n > 3 {
				notMade(t, api.TermCon, 4, kids...)
			}
		}
	}
}

// nested puts core into n constructors of tag 1, four bytes each.
func nested(n int, core string) string {
	return strings.Repeat("@1(", n) + core + strings.Repeat(")", n)
}

// cores have 1, 2, 3 and 4 bytes: nested, they reach each size.
var cores = []string{"_", "-1", "@99", "9999"}

func TestP2_1Size(t *testing.T) {
	for _, c := range cores {
		for n := (longest-len(c))/4 - 3; n <= (longest-len(c))/4+3; n++ {
			s := nested(n, c)
			if len(s) <= longest {
				tells(t, s, api.TermCon, 1, s[3:len(s)-1])
			} else {
				isNone(t, s)
				notMade(t, api.TermCon, 1, s[3:len(s)-1])
			}
		}
	}
	just := nested(255, "9999")
	if len(just) != longest {
		t.Fatalf("a text of %d bytes", len(just))
	}
	tells(t, just, api.TermCon, 1, nested(254, "9999"))
	isNone(t, nested(255, "-9999"))
	isNone(t, just+" ")
	isNone(t, just+")")
	isNone(t, "@"+just)
}

func TestP2_1OneByteTooLong(t *testing.T) {
	// Two parts: "@1(" and " " and ")" are five bytes of the text.
	for _, c := range []struct {
		kids []string
		size int
	}{
		{[]string{nested(127, "_"), nested(127, "_")}, 1023},
		{[]string{nested(127, "_"), nested(127, "-1")}, 1024},
		{[]string{nested(127, "-1"), nested(127, "_")}, 1024},
		{[]string{nested(127, "-1"), nested(127, "-1")}, 1025},
		{[]string{nested(127, "_"), nested(127, "@99")}, 1025},
		{[]string{nested(84, "_"), nested(84, "_"), nested(84, "123")}, 1019},
		{[]string{nested(84, "_"), nested(84, "1"), nested(85, "1234")}, 1024},
		{[]string{nested(84, "_"), nested(84, "1"), nested(85, "12345")}, 1025},
		{[]string{nested(85, "1234"), nested(84, "1"), nested(84, "-1")}, 1025},
		{[]string{nested(255, "9999")}, 1028},
		{[]string{nested(255, "9999"), nested(255, "9999"), nested(255, "9999")}, 3078},
	} {
		s := "@1(" + strings.Join(c.kids, " ") + ")"
		if len(s) != c.size {
			t.Fatalf("a text of %d bytes, not %d", len(s), c.size)
		}
		if c.size <= longest {
			tells(t, s, api.TermCon, 1, c.kids...)
			continue
		}
		isNone(t, s)
		notMade(t, api.TermCon, 1, c.kids...)
	}
	// A longer tag takes a byte too.
	two := []string{nested(127, "_"), nested(127, "-1")}
	tells(t, "@9("+strings.Join(two, " ")+")", api.TermCon, 9, two...)
	notMade(t, api.TermCon, 10, two...)
}

func TestP2_1Deep(t *testing.T) {
	for n := range 256 {
		s := nested(n+1, "_")
		if n < 255 {
			tells(t, s, api.TermCon, 1, nested(n, "_"))
		} else {
			isNone(t, s)
		}
		isNone(t, s[1:])
		isNone(t, s[:len(s)-1])
		isNone(t, s+")")
	}
	for s, depth := nested(255, "_"), 255; depth > 0; depth-- {
		kind, num, kids, e := Cut(s)
		if kind != api.TermCon || num != 1 || len(kids) != 1 || e != api.OK {
			t.Fatalf("%d deep: %d, %d, %q, %d", depth, kind, num, kids, e)
		}
		s = kids[0]
	}
	for n := range 345 {
		isNone(t, strings.Repeat("@1(", n))
		isNone(t, strings.Repeat("@1(", n)+")")
	}
}

// noTerms are texts that are no terms.
var noTerms = []string{
	"", " ", "  ", "\x00", "\t", "\n", "\r\n", "_ ", " _", "_\n", "_\x00", "\x00_", "__", "_!", "!_", "!!", "! ", "_1", "1_", "1!", "!1",
	"-", "--1", "-_", "-0", "-00", "-01", "1-", "1-2", "+0", "+1", "1 ", " 1", "1 2", "- 1", "1.0", "1e3", "0x1", "0b1", "1_0", "1,0", "١", "1é", "é",
	"@", "@@", "@@1", "@1@1", "@-", "@-0", "@-1", "@+1", "@_", "@!", "@a", "@ 1", "@1 ", " @1", "@01", "@00", "@100", "@1_", "@1!", "@(_)", "@()",
	"(", ")", "()", "(_)", "(1)", "_(_)", "!(_)", "1(_)", "-1(_)", "_)", "1)", "@1)", "(@1", "@1(", "@1()", "@1( )", "@1(_", "@1(_ ", "@1(_ _", "@1(_ )", "@1( _)", "@1(_  _)", "@1 (_)", "@1(_) ", " @1(_)",
	"@1(_))", "@1((_))", "@1((_)", "@1(_)(_)", "@1(_)_", "_@1(_)", "@1(_)@1(_)", "@1(_) @1(_)", "@1(_ _ _ _)", "@1(__)", "@1(_,_)", "@1(_, _)", "@1(_\n_)", "@1(_\t_)", "@1(_\x00_)", "@1(_\u00a0_)", "@1[_]", "@1{_}", "@1<_>", "@1(a)", "@1(A)", "@1(-)", "@1(-0)", "@1(01)", "@1(32768)", "@1(-32769)", "@1(@100)", "@1(@)", "@1(@1()", "@1(@1()", "@1(@1())", "@1(@1(_)", "@1(@1 (_))", "@1(@1(_ _ _ _))", "@1(@1( _))", "@1(@1(_)_)", "@1(_@1(_))", "@1(@1(_)@1(_))", "@1(@1(_)  @1(_))",
	"\xff", "\xc3", "_\xff", "@1(\xff)", "＿", "！", "@１", "@1（_）", "−1", "@1(_\u2003_)", "\ufeff_", "a", "hole",
}

func TestP2_1NoTerms(t *testing.T) {
	for _, s := range noTerms {
		isNone(t, s)
		notMade(t, api.TermCon, 1, s)
		notMade(t, api.TermCon, 1, "_", s)
		notMade(t, api.TermCon, 1, s, "_", "_")
		notMade(t, api.TermCon, 1, "_", s, "_")
		notMade(t, api.TermCon, 1, "_", "_", s)
	}
}

func TestP2_1MakeRefuses(t *testing.T) {
	for _, num := range []int{1, -1, 2, 99, 65536, 1 << 32, math.MaxInt, math.MinInt} {
		notMade(t, api.TermHole, num)
		notMade(t, api.TermFail, num)
	}
	for _, num := range []int{least - 1, greatest + 1, 65535, 65536, -65536, 1 << 32, 1<<32 + 1, math.MaxInt, math.MinInt} {
		notMade(t, api.TermNum, num)
		notMade(t, api.TermCon, num)
		notMade(t, api.TermCon, num, "_")
	}
	for _, kids := range [][]string{{"_"}, {""}, {"1"}, {"_", "_"}, {"_", "_", "_"}, {"_", "_", "_", "_"}} {
		notMade(t, api.TermHole, 0, kids...)
		notMade(t, api.TermFail, 0, kids...)
		notMade(t, api.TermNum, 0, kids...)
		notMade(t, api.TermNum, 5, kids...)
		notMade(t, api.TermNum, -5, kids...)
	}
	for _, kind := range []int{-1, 4, 5, -4, 256, 258, 65538, 1<<32 + 1, math.MaxInt, math.MinInt} {
		for _, num := range []int{0, 1, -1, 99, math.MaxInt, math.MinInt} {
			notMade(t, kind, num)
			notMade(t, kind, num, "_")
		}
	}
	// These two would read as a term of other parts.
	notMade(t, api.TermCon, 1, "_ _")
	notMade(t, api.TermCon, 1, "@1(_", "_)")
	notMade(t, api.TermCon, 1, "_)", "@1(_")
}

func TestP2_1EmptyAndNilAreOne(t *testing.T) {
	for _, c := range []struct {
		kind, num int
		want      string
	}{{api.TermHole, 0, "_"}, {api.TermFail, 0, "!"}, {api.TermNum, -12, "-12"}, {api.TermCon, 12, "@12"}} {
		for _, none := range [][]string{nil, {}, make([]string, 0, 4)} {
			if s, e := Make(c.kind, c.num, none); s != c.want || e != api.OK {
				t.Errorf("Make(%d, %d, none) = %q, %d, want %q, OK", c.kind, c.num, s, e, c.want)
			}
		}
	}
}

// TestP2_1Great: what is far too great is refused as fast as what is a little so (R1).
func TestP2_1Great(t *testing.T) {
	const many = 1 << 22
	for _, s := range []string{"@1(", "@1(@1(_) ", "9", "0", "-", "_", "_ ", ")", "@", "\x00"} {
		isNone(t, strings.Repeat(s, many))
	}
	notMade(t, api.TermCon, 1, slices.Repeat([]string{"_"}, many)...)
	notMade(t, api.TermCon, 1, slices.Repeat([]string{strings.Repeat("@1(", many)}, 3)...)
}

// The chapter's first paragraph once more, by patterns: a constructor of leaves alone is as good as a hole.
const (
	leafPattern = `(?:_|!|0|-?(?:[1-9][0-9]{0,3}|[12][0-9]{4}|3[01][0-9]{3}|32[0-6][0-9]{2}|327[0-5][0-9]|3276[0-7])|-32768|@(?:0|[1-9][0-9]?))`
	conPattern  = `@(?:0|[1-9][0-9]?)\(` + leafPattern + `(?: ` + leafPattern + `){0,2}\)`
)

var (
	wholeLeaf = regexp.MustCompile(`\A` + leafPattern + `\z`)
	oneCon    = regexp.MustCompile(conPattern)
)

// slow: may s be?
func slow(s string) bool {
	if len(s) > longest {
		return false
	}
	for strings.Contains(s, "(") {
		shorter := oneCon.ReplaceAllLiteralString(s, "_")
		if shorter == s {
			return false
		}
		s = shorter
	}
	return wholeLeaf.MatchString(s)
}

// kindOf: what the first byte of a term says.
func kindOf(s string) int {
	switch s[0] {
	case '_':
		return api.TermHole
	case '!':
		return api.TermFail
	case '@':
		return api.TermCon
	}
	return api.TermNum
}

// agrees holds May, Cut and Make against slow and plain joining.
func agrees(t *testing.T, s string) {
	t.Helper()
	if !slow(s) {
		isNone(t, s)
		return
	}
	kind, num, kids, e := Cut(s)
	want := strconv.Itoa(num)
	switch kindOf(s) {
	case api.TermHole, api.TermFail:
		want = s[:1]
		if num != 0 {
			t.Errorf("Cut(%q): number %d", s, num)
		}
	case api.TermCon:
		want = "@" + want
		for i, k := range kids {
			if !slow(k) {
				t.Errorf("Cut(%q): part %d is %q", s, i, k)
			}
			want += []string{"(", " ", " "}[i] + k
		}
		if len(kids) > 0 {
			want += ")"
		}
	}
	if !May(s) || kind != kindOf(s) || want != s || e != api.OK {
		t.Errorf("Cut(%q) = %d, %d, %q, %d", s, kind, num, kids, e)
	}
	if again, e := Make(kind, num, kids); again != s || e != api.OK {
		t.Errorf("Make(%d, %d, %q) = %q, %d, want %q, OK", kind, num, kids, again, e, s)
	}
}

// eachText hands over each text of up to size bytes out of letters.
func eachText(letters string, size int, give func(s string)) {
	text := make([]byte, 0, size)
	var more func()
	more = func() {
		give(string(text))
		if len(text) == size {
			return
		}
		for i := range len(letters) {
			text = append(text, letters[i])
			more()
			text = text[:len(text)-1]
		}
	}
	more()
}

func TestP2_1EachShortText(t *testing.T) {
	eachText("_!@() -019", 5, func(s string) { agrees(t, s) })
	eachText("_@() 1", 7, func(s string) { agrees(t, s) })
}

// samples are terms from which one byte leads to others, and to what is none.
var samples = []string{
	"_", "!", "0", "-32768", "32767", "-32767", "30000", "@0", "@99", "@1(_)", "@10(-1 @2)", "@1(_ _ _)", "@1(@2(1 2) @3(! _ @4))", "@99(@98(@97(@96(9 -9))) 0 32767)",
	nested(9, "@1(_ _ _)"),
}

func TestP2_1OneByteElse(t *testing.T) {
	for _, s := range samples {
		for i := range len(s) {
			agrees(t, s[:i])
			agrees(t, s[i:])
			agrees(t, s[:i]+s[i+1:])
			agrees(t, s[:i]+s[i:i+1]+s[i:])
			for c := range 256 {
				agrees(t, s[:i]+string([]byte{byte(c)})+s[i+1:])
				agrees(t, s[:i]+string([]byte{byte(c)})+s[i:])
			}
		}
		for c := range 256 {
			agrees(t, s+string([]byte{byte(c)}))
		}
	}
}

func FuzzP2_1(f *testing.F) {
	for _, s := range slices.Concat(samples, noTerms) {
		f.Add(s)
	}
	f.Fuzz(agrees)
}

// TestP2_1LeavesPartsAlone: neither the list that is handed in nor its spare room is changed (R4).
func TestP2_1LeavesPartsAlone(t *testing.T) {
	for _, c := range []struct {
		kind, num int
		kids      []string
	}{
		{api.TermCon, 1, []string{"_", "2", "@3(4)"}},
		{api.TermCon, 1, []string{"_", "2"}},
		{api.TermCon, 1, nil},
		{api.TermCon, 100, []string{"_", "2"}},
		{api.TermCon, 1, []string{"_", "x"}},
		{api.TermCon, 1, []string{"_", "_", "_", "_"}},
		{api.TermNum, 1, []string{"_"}},
		{api.TermHole, 0, nil},
		{9, 0, []string{"_"}},
	} {
		room := append(slices.Clone(c.kids), "spare", "room")
		kids := room[:len(c.kids)]
		first, e := Make(c.kind, c.num, kids)
		if want := append(slices.Clone(c.kids), "spare", "room"); !slices.Equal(room, want) {
			t.Errorf("Make(%d, %d, %q) left %q", c.kind, c.num, c.kids, room)
		}
		for i := range room {
			room[i] = "!"
		}
		if again, f := Make(c.kind, c.num, c.kids); again != first || f != e {
			t.Errorf("Make(%d, %d, %q) = %q, %d, then %q, %d", c.kind, c.num, c.kids, first, e, again, f)
		}
	}
}

// TestP2_1ListsAreStrangers: what is done to one answer, or to its spare room, is not seen in another one (R4, R5).
func TestP2_1ListsAreStrangers(t *testing.T) {
	const s = "@1(_ @2(3 4) !)"
	want := []string{"_", "@2(3 4)", "!"}
	_, _, one, _ := Cut(s)
	_, _, other, _ := Cut(s)
	made, _ := Make(api.TermCon, 1, one)
	_ = append(one[:1], "x", "x", "x")
	one = append(one, "y")
	for i := range one[:cap(one)] {
		one[:cap(one)][i] = "z"
	}
	if !slices.Equal(other, want) {
		t.Errorf("one list's change is seen in the other one: %q", other)
	}
	if _, _, later, e := Cut(s); !slices.Equal(later, want) || e != api.OK {
		t.Errorf("one list's change is seen in a later one: %q, %d", later, e)
	}
	if made != s {
		t.Errorf("one list's change is seen in what was made of it: %q", made)
	}
}

// TestP2_1FromSeveralAtOnce: each of several goroutines gets what one alone gets (R5).
func TestP2_1FromSeveralAtOnce(t *testing.T) {
	for _, s := range samples {
		t.Run(strconv.Itoa(len(s)), func(t *testing.T) {
			t.Parallel()
			for range 50 {
				agrees(t, s)
			}
		})
	}
}
