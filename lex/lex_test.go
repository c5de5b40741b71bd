package lex

import (
	"regexp"
	"slices"
	"strconv"
	"strings"
	"testing"
	"unsafe"

	"sleuth/api"
)

const longest = 2048

// gives: Words(s) is just these, and no error beside them.
func gives(t *testing.T, s string, words ...string) {
	t.Helper()
	if got, e := Words(s); !slices.Equal(got, words) || e != api.OK {
		t.Errorf("Words(%.80q) = %.200q, %d, want %.200q, OK", s, got, e, words)
	}
}

// refused: ErrLexForm, and no words beside it (R2).
func refused(t *testing.T, s string) {
	t.Helper()
	if got, e := Words(s); len(got) != 0 || e != api.ErrLexForm {
		t.Errorf("Words(%.80q), of %d bytes, = %.200q, %d, want none, ErrLexForm", s, len(s), got, e)
	}
}

func TestP4_1BlanksAndLineEnds(t *testing.T) {
	gives(t, "a", "a")
	gives(t, "abc", "abc")
	gives(t, "a b", "a", "b")
	gives(t, "a\nb", "a", "b")
	gives(t, "a   b", "a", "b")
	gives(t, "a\n\n\nb", "a", "b")
	gives(t, "a \n b", "a", "b")
	gives(t, "a\n \nb", "a", "b")
	gives(t, " a", "a")
	gives(t, "\na", "a")
	gives(t, "a ", "a")
	gives(t, "a\n", "a")
	gives(t, "  \n \n a bc \n\n  def\n  ", "a", "bc", "def")
	gives(t, "a a\na", "a", "a", "a")
	gives(t, "def 2\n$0 @12 f3 -7 + - * = < case let error", "def", "2", "$0", "@12", "f3", "-7", "+", "-", "*", "=", "<", "case", "let", "error")
}

func TestP4_1Brackets(t *testing.T) {
	gives(t, "(", "(")
	gives(t, ")", ")")
	gives(t, "()", "(", ")")
	gives(t, ")(", ")", "(")
	gives(t, "((", "(", "(")
	gives(t, "))", ")", ")")
	gives(t, "((()))", "(", "(", "(", ")", ")", ")")
	gives(t, "( )", "(", ")")
	gives(t, "(\n)", "(", ")")
	gives(t, "a ( b", "a", "(", "b")
	gives(t, "a ) b", "a", ")", "b")
	gives(t, "a(b", "a", "(", "b")
	gives(t, "a)b", "a", ")", "b")
	gives(t, "(a", "(", "a")
	gives(t, "a(", "a", "(")
	gives(t, ")a", ")", "a")
	gives(t, "a)", "a", ")")
	gives(t, "a((b))c", "a", "(", "(", "b", ")", ")", "c")
	gives(t, "ab)(cd", "ab", ")", "(", "cd")
	gives(t, "(f1(+ $0 -3))\n", "(", "f1", "(", "+", "$0", "-3", ")", ")")
	gives(t, "(def 1(case $0 @1 2 $1 error))", "(", "def", "1", "(", "case", "$0", "@1", "2", "$1", "error", ")", ")")
}

func TestP4_1Remarks(t *testing.T) {
	gives(t, "a#b", "a")
	gives(t, "a #b", "a")
	gives(t, "a # b", "a")
	gives(t, "a#b\nc", "a", "c")
	gives(t, "a#\nc", "a", "c")
	gives(t, "a # b\n c", "a", "c")
	gives(t, "# b\nc", "c")
	gives(t, "a\n# b\nc", "a", "c")
	gives(t, "a\n  # b c d\n  e", "a", "e")
	gives(t, "#\nc", "c")
	gives(t, "a\n#\nc", "a", "c")
	gives(t, "a#", "a")
	gives(t, "a\n#", "a")
	gives(t, "a # b (c) # d ) (\ne", "a", "e")
	gives(t, "a##b\nc", "a", "c")
	gives(t, "a###\nc", "a", "c")
	gives(t, "(#)\n)", "(", ")")
	gives(t, "(a#)\nb)", "(", "a", "b", ")")
	gives(t, ")# (", ")")
	gives(t, "a#b\n#c\n#d\ne#f", "a", "e")
	gives(t, "a#b\n\n\nc", "a", "c")
	// The line end ends the remark, and the next one begins anew.
	gives(t, "a # b\nc # d\ne # f", "a", "c", "e")
}

func TestP4_1NoWords(t *testing.T) {
	for _, s := range []string{
		"", " ", "  ", "\n", "\n\n", " \n", "\n ", "#", "##", "# ", " #", "#\n", "\n#", "# a", "#a\n", "#()\n#\n", " # a\n\n # (b)\n ",
		strings.Repeat(" ", longest), strings.Repeat("\n", longest), strings.Repeat("#", longest), strings.Repeat("#\n", longest/2), "#" + strings.Repeat("(", longest-1),
	} {
		gives(t, s)
	}
}

// mayStand: the bytes that a text may have, as the chapter tells them.
func mayStand(c int) bool {
	return c == 10 || c >= 32 && c <= 126
}

// TestP4_1EachByte: each of all bytes alone, within a word, behind a bracket, in a remark.
func TestP4_1EachByte(t *testing.T) {
	for c := range 256 {
		one := string([]byte{byte(c)})
		if !mayStand(c) {
			for _, s := range []string{one, "a" + one + "b", one + "a", "a" + one, "(" + one + ")", "#" + one, "a # b" + one + "\nc", "a #" + one + "\n"} {
				refused(t, s)
			}
			continue
		}
		switch one {
		case " ", "\n":
			gives(t, one)
			gives(t, "a"+one+"b", "a", "b")
			gives(t, "("+one+")", "(", ")")
		case "(", ")":
			gives(t, one, one)
			gives(t, "a"+one+"b", "a", one, "b")
			gives(t, "("+one+")", "(", one, ")")
		case "#":
			gives(t, one)
			gives(t, "a"+one+"b", "a")
			gives(t, "("+one+")", "(")
		default:
			gives(t, one, one)
			gives(t, "a"+one+"b", "a"+one+"b")
			gives(t, "("+one+")", "(", one, ")")
		}
		gives(t, "a#"+one+"\nb", "a", "b")
	}
}

// TestP4_1EdgeBytes names the edges: 10, 32 and 126 may stand, the ones next to them may not (but for 33 and 125, which a word has).
func TestP4_1EdgeBytes(t *testing.T) {
	gives(t, "a\x0ab", "a", "b")
	gives(t, "a\x20b", "a", "b")
	gives(t, "a\x21b", "a!b")
	gives(t, "a\x7db", "a}b")
	gives(t, "a\x7eb", "a~b")
	for _, s := range []string{"a\x09b", "a\x0bb", "a\x1fb", "a\x7fb", "a\x80b", "a\x00b", "a\x0db", "a\x0d\x0ab", "a\xffb", "a\xfeb"} {
		refused(t, s)
	}
}

func TestP4_1LongestTexts(t *testing.T) {
	gives(t, strings.Repeat("a", longest-1), strings.Repeat("a", longest-1))
	gives(t, strings.Repeat("a", longest), strings.Repeat("a", longest))
	gives(t, strings.Repeat("(", longest), slices.Repeat([]string{"("}, longest)...)
	gives(t, strings.Repeat(")", longest), slices.Repeat([]string{")"}, longest)...)
	gives(t, strings.Repeat("()", longest/2), slices.Repeat([]string{"(", ")"}, longest/2)...)
	gives(t, strings.Repeat("b ", longest/2), slices.Repeat([]string{"b"}, longest/2)...)
	gives(t, strings.Repeat("b\n", longest/2), slices.Repeat([]string{"b"}, longest/2)...)
	gives(t, strings.Repeat("b#c\n", longest/4), slices.Repeat([]string{"b"}, longest/4)...)
	gives(t, strings.Repeat(" ", longest-1)+"a", "a")
	gives(t, "a"+strings.Repeat("\n", longest-1), "a")
	gives(t, "a#"+strings.Repeat("b", longest-2), "a")
	gives(t, "a"+strings.Repeat(" ", longest-2)+"b", "a", "b")
	for _, s := range []string{"a", "(", ")", " ", "\n", "#", "~", "\x00", "\xff"} {
		refused(t, strings.Repeat(s, longest+1))
	}
	// One byte too many does not pass, wherever it would have been left out.
	refused(t, strings.Repeat("a", longest)+" ")
	refused(t, strings.Repeat("a", longest)+"\n")
	refused(t, " "+strings.Repeat("a", longest))
	refused(t, "a#"+strings.Repeat("b", longest-1))
	refused(t, "a"+strings.Repeat(" ", longest-1)+"b")
}

// wrong are pieces that hold a byte that may not be.
var wrong = []string{"\x00", "\x01", "\t", "\v", "\f", "\r", "\r\n", "\x1b", "\x1f", "\x7f", "\x80", "\xa0", "\xc3", "\xff", "é", "ß", "…", "\u00a0", "\u2028", "\ufeff", "\ufffd", "日", "😀"}

// samples are texts into which others are put.
var samples = []string{
	"", "a", " ", "\n", "#", "(", ")", "a b", "a#b\nc", "# only", "(def 0 (+ 1 2))\n(def 2 $0) # two\n", "  # x\n\n(f1(f2 $0)(let 3 $1))  \n#", "a(b)c(d)e # f (g) # h\ni#\n#\n)",
}

func TestP4_1WrongBytesAnywhere(t *testing.T) {
	for _, s := range samples {
		for _, w := range wrong {
			for i := range len(s) + 1 {
				refused(t, s[:i]+w+s[i:])
			}
		}
	}
	for c := range 256 {
		if one := string([]byte{byte(c)}); !mayStand(c) {
			for _, fill := range []string{"a", "(", " ", "\n", "#"} {
				refused(t, one+strings.Repeat(fill, longest-1))
				refused(t, strings.Repeat(fill, longest/2)+one+strings.Repeat(fill, longest/2-1))
				refused(t, strings.Repeat(fill, longest-1)+one)
			}
		}
	}
}

// TestP4_1Great: what is far too great is refused as fast as what is a little so (R1).
func TestP4_1Great(t *testing.T) {
	for _, s := range []string{"a", "a ", "(", " ", "\n", "#", "#\n", "\x00", "é"} {
		refused(t, strings.Repeat(s, 1<<22))
	}
}

var (
	remark = regexp.MustCompile(`#[^\n]*`)
	word   = regexp.MustCompile(`[()]|[^ \n()]+`)
)

// slow: what is asked of Words, in another way; false, if s is to be refused.
func slow(s string) ([]string, bool) {
	if len(s) > longest {
		return nil, false
	}
	for i := range len(s) {
		if !mayStand(int(s[i])) {
			return nil, false
		}
	}
	return word.FindAllString(remark.ReplaceAllString(s, ""), -1), true
}

// agrees holds Words against slow.
func agrees(t *testing.T, s string) {
	t.Helper()
	if want, ok := slow(s); ok {
		gives(t, s, want...)
		return
	}
	refused(t, s)
}

func TestP4_1EachShortText(t *testing.T) {
	const letters = "ab() \n#\t"
	var more func(s string)
	more = func(s string) {
		agrees(t, s)
		if len(s) == 6 {
			return
		}
		for i := range len(letters) {
			more(s + letters[i:i+1])
		}
	}
	more("")
}

func TestP4_1OneByteElse(t *testing.T) {
	for _, s := range samples {
		for i := range len(s) {
			for c := range 256 {
				one := string([]byte{byte(c)})
				agrees(t, s[:i]+one+s[i+1:])
				agrees(t, s[:i]+one+s[i:])
			}
		}
	}
}

func TestP4_1EachSize(t *testing.T) {
	for _, s := range samples[1:] {
		long := strings.Repeat(s, longest+1)
		for size := range longest + 2 {
			agrees(t, long[:size])
		}
	}
}

// TestP4_1WordsOfWords: words with a blank between each two are those words again.
func TestP4_1WordsOfWords(t *testing.T) {
	for _, s := range samples {
		words, _ := Words(s)
		gives(t, strings.Join(words, " "), words...)
		gives(t, strings.Join(words, "\n"), words...)
	}
}

// TestP4_1ListsAreStrangers: what is done to one answer, or to its spare room, is not seen in another one (R4, R5).
func TestP4_1ListsAreStrangers(t *testing.T) {
	for _, s := range append([]string{strings.Repeat("(a) #b\n", 200)}, samples...) {
		want, _ := slow(s)
		one, _ := Words(s)
		other, _ := Words(s)
		_ = append(one[:0], "x", "x", "x")
		one = append(one, "y")
		for i := range one[:cap(one)] {
			one[:cap(one)][i] = "z"
		}
		if !slices.Equal(other, want) {
			t.Errorf("%.80q: one list's change is seen in the other one: %.200q", s, other)
		}
		gives(t, s, want...)
		if len(other) > 0 && &one[0] == &other[0] {
			t.Errorf("%.80q: two answers are one list", s)
		}
	}
}

// overlap: have two texts a byte of memory in common?
func overlap(a, b string) bool {
	if a == "" || b == "" {
		return false
	}
	x, y := uintptr(unsafe.Pointer(unsafe.StringData(a))), uintptr(unsafe.Pointer(unsafe.StringData(b)))
	return x < y+uintptr(len(b)) && y < x+uintptr(len(a))
}

// TestP4_1WordsAreNew: no word is a piece of the text that was handed in, nor of another answer (R4).
func TestP4_1WordsAreNew(t *testing.T) {
	for _, s := range append([]string{strings.Repeat("a", longest)}, samples...) {
		one, _ := Words(s)
		other, _ := Words(s)
		for _, w := range one {
			if overlap(w, s) {
				t.Errorf("%.80q: the word %.80q shares its memory", s, w)
			}
			for _, v := range other {
				if overlap(w, v) {
					t.Errorf("%.80q: the words %.80q and %.80q of two answers share memory", s, w, v)
				}
			}
		}
	}
}

// TestP4_1NothingLeftBehind: a text that is refused, or another one, turns no later answer (R5).
func TestP4_1NothingLeftBehind(t *testing.T) {
	for _, s := range samples {
		for _, between := range []string{"", "# open", "(((", "a\x00", strings.Repeat("a", longest+1)} {
			agrees(t, s)
			agrees(t, between)
			agrees(t, s)
		}
	}
}

// TestP4_1LinesMayBeLeft: whoever goes through lines may stop, and may go through them again.
func TestP4_1LinesMayBeLeft(t *testing.T) {
	const s = "a\n\nb\n"
	all := lines(s)
	for range 2 {
		if got := slices.Collect(all); !slices.Equal(got, []string{"a", "", "b", ""}) {
			t.Errorf("lines(%q) = %q", s, got)
		}
		for line := range all {
			if line != "a" {
				t.Errorf("lines(%q) begins with %q", s, line)
			}
			break
		}
	}
	if got := slices.Collect(lines("")); !slices.Equal(got, []string{""}) {
		t.Errorf("lines of nothing = %q", got)
	}
}

func FuzzP4_1(f *testing.F) {
	for _, s := range append(wrong, samples...) {
		f.Add(s)
	}
	f.Add(strings.Repeat("a", longest))
	f.Add(strings.Repeat("a", longest+1))
	f.Fuzz(agrees)
}

// TestP4_1FromSeveralAtOnce: each of several goroutines gets what one alone gets (R5).
func TestP4_1FromSeveralAtOnce(t *testing.T) {
	for i, s := range samples {
		t.Run(strconv.Itoa(i), func(t *testing.T) {
			t.Parallel()
			for range 50 {
				agrees(t, s)
			}
		})
	}
}
