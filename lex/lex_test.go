package lex_test

import (
	"fmt"
	"math"
	"math/rand"
	"regexp"
	"slices"
	"strconv"
	"strings"
	"testing"

	"haruspex/api"
	"haruspex/lex"
	"haruspex/word"
)

// signs are as the chapter's words list them.
func signs() []string {
	return strings.Fields("<= >= <> -> ( ) , . + - * / % = < > ! | { } [ ]")
}

func blanks() []string { return []string{" ", "\t", "\n"} }

// one has just the byte c, which need be no text of runes.
func one(c int) string { return string([]byte{byte(c)}) }

// answer is what All answers.
type answer struct {
	l  []api.Token
	at int
	e  api.Errno
}

func (a answer) same(b answer) bool {
	return slices.Equal(a.l, b.l) && a.at == b.at && a.e == b.e
}

func all(s string) answer {
	l, at, e := lex.All(s)
	return answer{l, at, e}
}

func wantAnswer(t *testing.T, s string, want answer) {
	t.Helper()
	if got := all(s); !got.same(want) {
		t.Errorf("All(%.80q): %.300v, not %.300v", s, got, want)
	}
}

// wantAll takes the tokens without the TEnd, which stands behind all of s.
func wantAll(t *testing.T, s string, l ...api.Token) {
	t.Helper()
	wantAnswer(t, s, answer{append(slices.Clip(l), api.Token{K: api.TEnd, At: len(s)}), len(s), api.OK})
}

func wantRefused(t *testing.T, s string, at int, e api.Errno) {
	t.Helper()
	wantAnswer(t, s, answer{nil, at, e})
	if r, n, got := lex.New(s); r != nil || n != at || got != e {
		t.Errorf("New(%.80q): %v, %d, %d, not %d, %d", s, r, n, got, at, e)
	}
}

func wantFault(t *testing.T, s string, at int) {
	t.Helper()
	wantRefused(t, s, at, api.ErrForm)
}

// Tokens, by their kinds.
func aWord(s string, at int) api.Token { return api.Token{K: api.TWord, S: s, At: at} }

func aName(s string, at int) api.Token { return api.Token{K: api.TName, S: s, At: at} }

func anInt(s string, at int) api.Token { return api.Token{K: api.TInt, S: s, At: at} }

func aText(s string, at int) api.Token { return api.Token{K: api.TText, S: s, At: at} }

func aSign(s string, at int) api.Token { return api.Token{K: api.TSign, S: s, At: at} }

func anEnd(at int) api.Token { return api.Token{K: api.TEnd, At: at} }

// P17.1

func TestAll(t *testing.T) {
	wantAll(t, "a->b", aName("a", 0), aSign("->", 1), aName("b", 3))
	wantAll(t, "SEQ(a1 , 'x\\'y')->12<=\n<>", aWord("SEQ", 0), aSign("(", 3), aName("a1", 4), aSign(",", 7), aText("x'y", 9), aSign(")", 15), aSign("->", 16), anInt("12", 18), aSign("<=", 20), aSign("<>", 23))
	wantAll(t, "PATTERN SEQ(buy a, !sell b, buy c+) WITHIN 10",
		aWord("PATTERN", 0), aWord("SEQ", 8), aSign("(", 11), aName("buy", 12), aName("a", 16), aSign(",", 17), aSign("!", 19), aName("sell", 20), aName("b", 25), aSign(",", 26), aName("buy", 28), aName("c", 32), aSign("+", 33), aSign(")", 34), aWord("WITHIN", 36), anInt("10", 43))
	wantAll(t, "EVERY a=buy -> NOT b=sell -> c=buy",
		aWord("EVERY", 0), aName("a", 6), aSign("=", 7), aName("buy", 8), aSign("->", 12), aWord("NOT", 15), aName("b", 19), aSign("=", 20), aName("sell", 21), aSign("->", 26), aName("c", 29), aSign("=", 30), aName("buy", 31))
	wantAll(t, "(a b+ | c{2,}) % [x.y]",
		aSign("(", 0), aName("a", 1), aName("b", 3), aSign("+", 4), aSign("|", 6), aName("c", 8), aSign("{", 9), anInt("2", 10), aSign(",", 11), aSign("}", 12), aSign(")", 13), aSign("%", 15), aSign("[", 17), aName("x", 18), aSign(".", 19), aName("y", 20), aSign("]", 21))
	wantAll(t, "a.x + 1 < 5 AND NOT (b.y = 'z' OR a.x = -3)",
		aName("a", 0), aSign(".", 1), aName("x", 2), aSign("+", 4), anInt("1", 6), aSign("<", 8), anInt("5", 10), aWord("AND", 12), aWord("NOT", 16), aSign("(", 20), aName("b", 21), aSign(".", 22), aName("y", 23), aSign("=", 25), aText("z", 27), aWord("OR", 31), aName("a", 34), aSign(".", 35), aName("x", 36), aSign("=", 38), aSign("-", 40), anInt("3", 41), aSign(")", 42))
	wantAll(t, "a*b/c-d>=1", aName("a", 0), aSign("*", 1), aName("b", 2), aSign("/", 3), aName("c", 4), aSign("-", 5), aName("d", 6), aSign(">=", 7), anInt("1", 9))
}

func TestNoTokens(t *testing.T) {
	wantAll(t, "")
	for n := range 5 {
		for _, b := range blanks() {
			wantAll(t, strings.Repeat(b, n))
			wantAll(t, strings.Repeat(b, n)+" \t\n")
		}
	}
}

// Each of the three, once and more often, at the beginning, between and at the end.
func TestBlanks(t *testing.T) {
	for _, b := range append(blanks(), "  ", "\n\n\n", " \t", "\n \t \n", strings.Repeat(" \n", 50)) {
		n := len(b)
		wantAll(t, b+"a", aName("a", n))
		wantAll(t, "a"+b, aName("a", 0))
		wantAll(t, b+"a"+b+"b"+b, aName("a", n), aName("b", 2*n+1))
		wantAll(t, b+"A"+b+"B"+b, aWord("A", n), aWord("B", 2*n+1))
		wantAll(t, "12"+b+"34", anInt("12", 0), anInt("34", n+2))
		wantAll(t, "0"+b+"0", anInt("0", 0), anInt("0", n+1))
		wantAll(t, "<"+b+"=", aSign("<", 0), aSign("=", n+1))
		wantAll(t, "-"+b+">", aSign("-", 0), aSign(">", n+1))
		wantAll(t, "'a'"+b+"'b'"+b, aText("a", 0), aText("b", n+3))
		wantFault(t, b+"?"+b, n)
		wantFault(t, "a"+b+"?", n+1)
	}
	wantAll(t, "' a  b '", aText(" a  b ", 0)) // of a text they are parts
	wantAll(t, " ' ' ", aText(" ", 1))
}

// Bytes that other programs take for blanks, and those beside the three.
func TestNoBlanks(t *testing.T) {
	for _, s := range []string{"\x00", "\x08", "\x0b", "\x0c", "\x0d", "\x0e", "\x1f", "\x85", "\xa0", "\u0085", "\u00a0", "\u2003", "\u2028", "\u3000", "\ufeff"} {
		wantFault(t, s, 0)
		wantFault(t, s+"a", 0)
		wantFault(t, "a"+s+"b", 1)
		wantFault(t, "a"+s, 1)
		wantFault(t, " \n"+s, 2)
	}
	wantFault(t, "a\r\nb", 1)
	wantAll(t, "!", aSign("!", 0)) // right above a blank
}

func TestEachSign(t *testing.T) {
	for _, s := range signs() {
		n := len(s)
		wantAll(t, s, aSign(s, 0))
		wantAll(t, " "+s+" ", aSign(s, 1))
		wantAll(t, "a"+s+"b", aName("a", 0), aSign(s, 1), aName("b", n+1))
		wantAll(t, "1"+s+"2", anInt("1", 0), aSign(s, 1), anInt("2", n+1))
		wantAll(t, "A"+s+"B", aWord("A", 0), aSign(s, 1), aWord("B", n+1))
		wantAll(t, "'a'"+s+"'b'", aText("a", 0), aSign(s, 3), aText("b", n+3))
		wantFault(t, s+"?", n)
		wantFault(t, s+"\xff", n)
	}
}

// The longest counts, whatever stands behind it.
func TestSignsThatBeginOthers(t *testing.T) {
	for _, x := range []struct {
		s    string
		want []string
	}{
		{"<", []string{"<"}}, {"<=", []string{"<="}}, {"<>", []string{"<>"}}, {">", []string{">"}}, {">=", []string{">="}}, {"-", []string{"-"}}, {"->", []string{"->"}},
		{"<<", []string{"<", "<"}}, {"<<=", []string{"<", "<="}}, {"<=>", []string{"<=", ">"}}, {"<>=", []string{"<>", "="}}, {"<=>=", []string{"<=", ">="}}, {"<==", []string{"<=", "="}}, {"<>>", []string{"<>", ">"}}, {"<>>=", []string{"<>", ">="}}, {"<<>>", []string{"<", "<>", ">"}}, {"<-", []string{"<", "-"}}, {"<->", []string{"<", "->"}},
		{">>", []string{">", ">"}}, {">>=", []string{">", ">="}}, {">==", []string{">=", "="}}, {"><", []string{">", "<"}}, {"><=", []string{">", "<="}}, {"><>", []string{">", "<>"}}, {">-", []string{">", "-"}}, {">->", []string{">", "->"}},
		{"--", []string{"-", "-"}}, {"-->", []string{"-", "->"}}, {"->=", []string{"->", "="}}, {"->>", []string{"->", ">"}}, {"->>=", []string{"->", ">="}}, {"->-", []string{"->", "-"}}, {"->->", []string{"->", "->"}}, {"-=", []string{"-", "="}}, {"-<", []string{"-", "<"}}, {"-<=", []string{"-", "<="}},
		{"==", []string{"=", "="}}, {"=<", []string{"=", "<"}}, {"=>", []string{"=", ">"}}, {"=>=", []string{"=", ">="}}, {"=<>", []string{"=", "<>"}}, {"=->", []string{"=", "->"}}, {"!=", []string{"!", "="}}, {"||", []string{"|", "|"}}, {"()", []string{"(", ")"}}, {"..", []string{".", "."}}, {"**", []string{"*", "*"}},
	} {
		var l []api.Token
		at := 0
		for _, s := range x.want {
			l = append(l, aSign(s, at))
			at += len(s)
		}
		wantAll(t, x.s, l...)
		wantAll(t, x.s+" ", l...)
		wantAll(t, x.s+"a", append(l, aName("a", at))...)
	}
}

func TestSideBySide(t *testing.T) {
	wantAll(t, "aB", aName("a", 0), aWord("B", 1))
	wantAll(t, "a_B", aName("a_", 0), aWord("B", 2))
	wantAll(t, "a1B", aName("a1", 0), aWord("B", 2))
	wantAll(t, "Ba", aWord("B", 0), aName("a", 1))
	wantAll(t, "SEQa1_", aWord("SEQ", 0), aName("a1_", 3))
	wantAll(t, "aBcD", aName("a", 0), aWord("B", 1), aName("c", 2), aWord("D", 3))
	wantAll(t, "A1", aWord("A", 0), anInt("1", 1))
	wantAll(t, "1A", anInt("1", 0), aWord("A", 1))
	wantAll(t, "A0B", aWord("A", 0), anInt("0", 1), aWord("B", 2))
	wantAll(t, "1a", anInt("1", 0), aName("a", 1))
	wantAll(t, "0a0", anInt("0", 0), aName("a0", 1))
	wantAll(t, "0x10", anInt("0", 0), aName("x10", 1))
	wantAll(t, "1e5", anInt("1", 0), aName("e5", 1))
	wantAll(t, "a1", aName("a1", 0)) // behind a name a number is a part of it
	wantAll(t, "a01", aName("a01", 0))
	wantAll(t, "aB1", aName("a", 0), aWord("B", 1), anInt("1", 2))
	wantAll(t, "1.5", anInt("1", 0), aSign(".", 1), anInt("5", 2))
	wantAll(t, "-0", aSign("-", 0), anInt("0", 1))
	wantAll(t, "'a''b'", aText("a", 0), aText("b", 3))
	wantAll(t, "''''", aText("", 0), aText("", 2))
	wantAll(t, "a'b'C'd'1'e'", aName("a", 0), aText("b", 1), aWord("C", 4), aText("d", 5), anInt("1", 8), aText("e", 9))
	wantAll(t, "'b'a'c'D'e'1", aText("b", 0), aName("a", 3), aText("c", 4), aWord("D", 7), aText("e", 8), anInt("1", 11))
	wantFault(t, "A_", 1) // no word has it, no name begins so
	wantFault(t, "1_", 1)
	wantFault(t, "_a", 0)
	wantFault(t, "a _", 2)
	wantFault(t, "A01", 1)
	wantFault(t, "'a'_", 3)
}

func TestLengths(t *testing.T) {
	for n := 1; n <= 3*api.MaxName; n++ {
		caps, name, mixed := strings.Repeat("Q", n), strings.Repeat("q", n), "a"+strings.Repeat("_9", n)[:n-1]
		if n <= api.MaxName {
			wantAll(t, caps, aWord(caps, 0))
			wantAll(t, name, aName(name, 0))
			wantAll(t, mixed, aName(mixed, 0))
			wantAll(t, " "+caps+name+caps+" "+mixed, aWord(caps, 1), aName(name, n+1), aWord(caps, 2*n+1), aName(mixed, 3*n+2))
			continue
		}
		for _, s := range []string{caps, name, mixed} {
			wantFault(t, s, 0)
			wantFault(t, " "+s, 1)
			wantFault(t, "a -> "+s+" ?", 5)
			wantFault(t, s+"?", 0)
		}
		wantFault(t, "a"+caps, 1)
		wantFault(t, "A"+name, 1)
		wantFault(t, "1"+name, 1)
	}
	wantAll(t, "ABCDEFGHIJKLMNOPQRSTUVWXYZ", aWord("ABCDEFGHIJKLMNOPQRSTUVWXYZ", 0))
	wantAll(t, "abcdefghijklmnopqrstuvwxyz", aName("abcdefghijklmnopqrstuvwxyz", 0))
	wantAll(t, "z9876543210_", aName("z9876543210_", 0))
}

func TestDigits(t *testing.T) {
	for _, s := range []string{"0", "1", "9", "10", "100", "1234567890", "1000000000000000000", "9223372036854775807", "9223372036854775808", "9999999999999999999"} {
		wantAll(t, s, anInt(s, 0))
		wantAll(t, " "+s+" a", anInt(s, 1), aName("a", len(s)+2))
		wantAll(t, s+"A", anInt(s, 0), aWord("A", len(s)))
	}
	for n := 1; n <= 60; n++ {
		s := strings.Repeat("7", n)
		if n <= 19 {
			wantAll(t, s, anInt(s, 0))
		} else {
			wantFault(t, s, 0)
			wantFault(t, "( "+s+" ?", 2)
		}
	}
	for _, s := range []string{"00", "01", "09", "007", "0123456789", "0000000000000000000", "0000000000000000001", "00000000000000000000", "10000000000000000000", "12345678901234567890", "18446744073709551616"} {
		wantFault(t, s, 0)
		wantFault(t, "a "+s, 2)
		wantFault(t, "("+s+")", 1)
		wantFault(t, "A"+s, 1)
		wantFault(t, "-"+s, 1)
		wantFault(t, s+"?", 0)
	}
	wantAll(t, "a00 0 b01", aName("a00", 0), anInt("0", 4), aName("b01", 6))
	wantFault(t, "\u0661", 0) // a digit elsewhere
	wantFault(t, "1\uff11", 1)
}

func TestTexts(t *testing.T) {
	for _, x := range [][2]string{
		{`''`, ""}, {`'a'`, "a"}, {`' '`, " "}, {`'->'`, "->"}, {`'SEQ'`, "SEQ"}, {`'12'`, "12"}, {`'it\'s'`, "it's"}, {`'\''`, "'"}, {`'\\'`, "\\"}, {`'\\\''`, "\\'"}, {`'\x00'`, "\x00"}, {`'\x0a\x09'`, "\n\t"}, {`'\x7f'`, "\x7f"}, {`'\xff'`, "\xff"}, {`'\xc3\xa4'`, "\u00e4"}, {`'a\'b\\c\x1fd'`, "a'b\\c\x1fd"}, {`'"'`, `"`}, {`'?#@$~'`, "?#@$~"},
		{"'" + strings.Repeat("a", api.MaxText) + "'", strings.Repeat("a", api.MaxText)}, {"'" + strings.Repeat(`\xff`, api.MaxText) + "'", strings.Repeat("\xff", api.MaxText)}, {"'" + strings.Repeat(`\'`, api.MaxText) + "'", strings.Repeat("'", api.MaxText)},
	} {
		n := len(x[0])
		wantAll(t, x[0], aText(x[1], 0))
		wantAll(t, "\n"+x[0]+"\n", aText(x[1], 1))
		wantAll(t, "a="+x[0]+"B", aName("a", 0), aSign("=", 1), aText(x[1], 2), aWord("B", n+2))
		wantAll(t, x[0]+x[0], aText(x[1], 0), aText(x[1], n))
		wantFault(t, x[0]+"?", n)
	}
	for c := range 256 {
		q, _ := word.Quote(one(c))
		wantAll(t, "a "+q+" 1", aName("a", 0), aText(one(c), 2), anInt("1", len(q)+3))
	}
}

// The place is where it begins and Unquote's together, the error is Unquote's.
func TestTextsThatAreRefused(t *testing.T) {
	for _, x := range []struct {
		s  string
		at int
	}{
		{"'", 1}, {"'a", 2}, {"'abc", 4}, {`'\'`, 3}, {`'\`, 2}, {`'\\`, 3}, {`'\x`, 3}, {`'\x0`, 4}, {`'\x00`, 5}, {"'a b -> 1", 9}, // no end
		{"'\x01'", 1}, {"'a\x7f'", 2}, {"'\n'", 1}, {"'a\tb'", 2}, {"'\xff'", 1}, {"'\u00e4'", 1}, {"'a\U0001f600'", 2}, {"'\x00", 1}, // not written as itself
		{`'\q'`, 2}, {`'a\n'`, 3}, {`'\X00'`, 2}, {`'\"'`, 2}, {"'\\\xff'", 2}, // behind a \
		{`'\x'`, 3}, {`'\xg0'`, 3}, {`'\x0g'`, 4}, {`'\x0A'`, 4}, {`'\xFF'`, 3}, // no digit
		{`'\x41'`, 1}, {`'ab\x20'`, 3}, {`'\x27'`, 1}, {`'\x5c'`, 1}, {`'\x7e'`, 1}, // another way
	} {
		wantFault(t, x.s, x.at)
		for _, head := range []string{" ", "a", "a ", "SEQ(a, ", "''", "'it\\'s' ", "1 <=\n\t", "-"} {
			wantFault(t, head+x.s, len(head)+x.at)
		}
	}
	for _, n := range []int{api.MaxText + 1, api.MaxText + 2, 2 * api.MaxText, api.MaxSource - 9} {
		s := "'" + strings.Repeat("a", n)
		wantRefused(t, s+"'", 0, api.ErrLong)
		wantRefused(t, " "+s+"'", 1, api.ErrLong)
		wantRefused(t, "a = "+s+"' ?", 4, api.ErrLong)
		wantRefused(t, "'' "+s+"'?", 3, api.ErrLong)
		wantFault(t, s, n+1) // what can't be, ahead of what is too long
		wantFault(t, "a "+s+"\x00'", n+3)
	}
	wantRefused(t, "'"+strings.Repeat(`\xff`, api.MaxText+1)+"'", 0, api.ErrLong)
	wantRefused(t, "("+"'"+strings.Repeat(`\'`, api.MaxText+1)+"'", 1, api.ErrLong)
}

// begins tells by lists which bytes begin a token; a ' begins one that needs an end.
func begins(c int) bool {
	return strings.IndexByte("ABCDEFGHIJKLMNOPQRSTUVWXYZabcdefghijklmnopqrstuvwxyz0123456789(),.+-*/%=<>!|{}[]", byte(c)) >= 0
}

func TestEachByte(t *testing.T) {
	for c := range 256 {
		s := one(c)
		switch {
		case begins(c):
			if got := all(s); len(got.l) != 2 || got.l[0].S != s || got.l[0].At != 0 || got.l[1] != anEnd(1) || got.at != 1 || got.e != api.OK {
				t.Errorf("All(%q): %v", s, got)
			}
		case c == ' ' || c == '\t' || c == '\n':
			wantAll(t, s)
		case c == '\'':
			wantFault(t, s, 1)
		default:
			wantFault(t, s, 0)
			wantFault(t, s+"a", 0)
			wantFault(t, s+s, 0)
			if c != '_' {
				wantFault(t, "a"+s, 1)
			}
			for _, head := range []string{" ", "\n\t ", "a ", "A", "A ", "12", "(", "<", "->", "-", "'x'", "a -> b\n"} {
				wantFault(t, head+s, len(head))
				wantFault(t, head+s+"b", len(head))
			}
		}
	}
}

// The place is that of a rune's first byte, also of one that is cut off.
func TestRunes(t *testing.T) {
	for _, s := range []string{"\u00e4", "\u00c4", "\u0130", "\u212a", "\u0410", "\u0430", "\u2019", "\u2192", "\u20ac", "\uff08", "\uff21", "\uff41", "\ufffd", "\U0001d400", "\U0001f600", "\xc3", "\xe2\x82", "\xf0\x9f\x98", "\x80", "\xff", "\xc1\x81", "\xed\xa0\x80"} {
		wantFault(t, s, 0)
		wantFault(t, s+"a", 0)
		wantFault(t, " "+s, 1)
		wantFault(t, "a"+s, 1)
		wantFault(t, "aa"+s+"a", 2)
		wantFault(t, "A"+s, 1)
		wantFault(t, "1"+s, 1)
		wantFault(t, "-"+s, 1)
		wantFault(t, "<"+s+">", 1)
		wantFault(t, "'a'"+s, 3)
		wantFault(t, "'a"+s+"'", 2)
	}
}

func TestSourceAtItsLimit(t *testing.T) {
	fill := func(s string, n int) string { return strings.Repeat(s, n/len(s)+1)[:n] }
	for _, s := range []string{" ", "\n", "a ", "A\t", "(", "<>", "->", "'x'", "1 ", "aB", "abc -> "} {
		at := fill(s, api.MaxSource)
		if got := all(at); s != "'x'" && (got.e != api.OK || got.at != api.MaxSource || got.l[len(got.l)-1] != anEnd(api.MaxSource)) {
			t.Errorf("All of MaxSource bytes %q: %d tokens, %d, %d", s, len(got.l), got.at, got.e)
		}
		wantAnswer(t, at, model(at))
		below := fill(s, api.MaxSource-1)
		wantAnswer(t, below, model(below))
		for _, n := range []int{api.MaxSource + 1, api.MaxSource + 2, 2 * api.MaxSource, 1 << 17} {
			wantRefused(t, fill(s, n), 0, api.ErrLong)
			wantRefused(t, "?"+fill(s, n), 0, api.ErrLong) // ahead of what can't be
			wantRefused(t, "'"+fill("a", n)+"'", 0, api.ErrLong)
		}
	}
	if got := all(fill("(", api.MaxSource)); len(got.l) != api.MaxSource+1 {
		t.Errorf("All of MaxSource signs: %d tokens", len(got.l))
	}
	wantFault(t, fill(" ", api.MaxSource-1)+"?", api.MaxSource-1)
	wantFault(t, fill(" ", api.MaxSource-1)+"'", api.MaxSource)
	wantAll(t, fill(" ", api.MaxSource-1)+"a", aName("a", api.MaxSource-1))
	wantRefused(t, fill(" ", api.MaxSource)+"a", 0, api.ErrLong)
	wantRefused(t, "a"+fill(" ", api.MaxSource), 0, api.ErrLong)
	wantRefused(t, fill("\xff", api.MaxSource+1), 0, api.ErrLong)
	wantFault(t, fill("\xff", api.MaxSource), 0)
	wantFault(t, fill("a", api.MaxSource), 0)
}

// Of several faults the first counts, of whatever sort the others are.
func TestFirstFault(t *testing.T) {
	long := strings.Repeat("a", api.MaxText+1)
	faults := []struct {
		s  string
		at int
		e  api.Errno
	}{
		{"?", 0, api.ErrForm}, {"_", 0, api.ErrForm}, {"\xff", 0, api.ErrForm}, {"00", 0, api.ErrForm}, {strings.Repeat("1", 20), 0, api.ErrForm}, {long[:api.MaxName+1], 0, api.ErrForm}, {strings.ToUpper(long[:api.MaxName+1]), 0, api.ErrForm}, {`'\q'`, 2, api.ErrForm}, {"'a\x01'", 2, api.ErrForm}, {"'" + long + "'", 0, api.ErrLong},
	}
	for _, a := range faults {
		for _, b := range faults {
			for _, between := range []string{" ", " a ", "\n->", ",", " 'x' "} {
				wantRefused(t, a.s+between+b.s, a.at, a.e)
				wantRefused(t, "( "+a.s+between+b.s+" b", 2+a.at, a.e)
			}
		}
		wantRefused(t, a.s+" 'a", a.at, a.e)
	}
}

func TestEnd(t *testing.T) {
	for _, s := range []string{"", " ", "\n\t ", "a", "a ", " a\n\n", "A1'x'", "->", "- ", "'a' \t"} {
		got := all(s)
		if last := got.l[len(got.l)-1]; last != anEnd(len(s)) {
			t.Errorf("All(%q): at its end %v", s, last)
		}
		for _, x := range got.l[:len(got.l)-1] {
			if x.K == api.TEnd {
				t.Errorf("All(%q): %v ahead of its end", s, x)
			}
		}
	}
}

// shapes are the chapter's words, by other means; texts are left to word.
var shapes = []struct {
	k     int
	shape *regexp.Regexp
	right *regexp.Regexp
}{
	{api.TWord, regexp.MustCompile(`^[A-Z]+`), regexp.MustCompile(`^[A-Z]{1,32}$`)},
	{api.TName, regexp.MustCompile(`^[a-z][a-z0-9_]*`), regexp.MustCompile(`^.{1,32}$`)},
	{api.TInt, regexp.MustCompile(`^[0-9]+`), regexp.MustCompile(`^(?:0|[1-9][0-9]{0,18})$`)},
}

// longestSign is empty where none stands.
func longestSign(s string) string {
	longest := ""
	for _, g := range signs() {
		if strings.HasPrefix(s, g) && len(g) > len(longest) {
			longest = g
		}
	}
	return longest
}

// modelFirst answers the token that s begins with, and its length, or the place of the fault.
func modelFirst(s string) (api.Token, int, api.Errno) {
	if s[0] == '\'' {
		text, n, e := word.Unquote(s)
		return aText(text, 0), n, e
	}
	for _, x := range shapes {
		if got := x.shape.FindString(s); got != "" {
			if !x.right.MatchString(got) {
				return api.Token{}, 0, api.ErrForm
			}
			return api.Token{K: x.k, S: got}, len(got), api.OK
		}
	}
	if g := longestSign(s); g != "" {
		return aSign(g, 0), len(g), api.OK
	}
	return api.Token{}, 0, api.ErrForm
}

func model(s string) answer {
	if len(s) > api.MaxSource {
		return answer{nil, 0, api.ErrLong}
	}
	var l []api.Token
	for rest := strings.TrimLeft(s, " \t\n"); rest != ""; rest = strings.TrimLeft(rest, " \t\n") {
		at := len(s) - len(rest)
		x, n, e := modelFirst(rest)
		if e != api.OK {
			return answer{nil, at + n, e}
		}
		x.At = at
		l = append(l, x)
		rest = rest[n:]
	}
	return answer{append(l, anEnd(len(s))), len(s), api.OK}
}

func wantAsModel(t *testing.T, s string) {
	t.Helper()
	wantAnswer(t, s, model(s))
}

func TestEachTwoBytes(t *testing.T) {
	for a := range 256 {
		for b := range 256 {
			s := one(a) + one(b)
			for _, head := range []string{"", "a", "A", "1", "<", "-", "'"} {
				wantAsModel(t, head+s)
			}
			wantAsModel(t, s+"a")
			wantAsModel(t, s+"'")
			wantAsModel(t, s+">")
		}
	}
}

// Each text of up to five of the signs that matter.
func TestEachShortText(t *testing.T) {
	const some = "aB01_<=>-( \n'\\x?\xc3"
	var grow func(s string, more int)
	grow = func(s string, more int) {
		wantAsModel(t, s)
		if more > 0 {
			for i := range len(some) {
				grow(s+some[i:i+1], more-1)
			}
		}
	}
	grow("", 5)
}

// Each byte in the place of each of a text, and ahead of it; and each beginning of it.
func TestTextsWithOneOtherByte(t *testing.T) {
	for _, s := range []string{"SEQ(a1 , 'x\\'y')->12<=\n<>", "a.x + 10 < 5 AND NOT (b_2 = '\\x01' OR -3)", "{0,9}|[a]%B*c/2>=d-1!"} {
		for i := range len(s) {
			wantAsModel(t, s[:i])
			for c := range 256 {
				wantAsModel(t, s[:i]+one(c)+s[i+1:])
				wantAsModel(t, s[:i]+one(c)+s[i:])
			}
		}
	}
}

// piece is a token, and how it is written.
type piece struct {
	k       int
	s       string
	written string
}

func letters(by *rand.Rand, from string, n int) string {
	b := make([]byte, n)
	for i := range b {
		b[i] = from[by.Intn(len(from))]
	}
	return string(b)
}

func somePiece(by *rand.Rand) piece {
	const small, large, digits = "abcxyz", "ABCXYZ", "0123456789"
	n := by.Intn(1 + by.Intn(api.MaxName))
	switch k := 1 + by.Intn(5); k {
	case api.TWord:
		s := letters(by, large, n+1)
		return piece{k, s, s}
	case api.TName:
		s := letters(by, small, 1) + letters(by, small+digits+"_", n)
		return piece{k, s, s}
	case api.TInt:
		if by.Intn(4) == 0 {
			return piece{k, "0", "0"}
		}
		s := letters(by, digits[1:], 1) + letters(by, digits, by.Intn(19))
		return piece{k, s, s}
	case api.TText:
		s := make([]byte, n)
		by.Read(s)
		q, _ := word.Quote(string(s))
		return piece{k, string(s), q}
	default:
		all := signs()
		s := all[by.Intn(len(all))]
		return piece{k, s, s}
	}
}

// sticks tells whether a and b are other tokens, if no blank is between them.
func sticks(a, b piece) bool {
	switch {
	case a.k == api.TSign && b.k == api.TSign:
		return slices.Contains(signs(), a.s+b.s[:1])
	case a.k == api.TName && b.k == api.TInt:
		return true
	}
	return a.k == b.k && a.k != api.TText
}

func somePieces(by *rand.Rand, most int) []piece {
	l := make([]piece, by.Intn(most+1))
	for i := range l {
		l[i] = somePiece(by)
	}
	return l
}

func someBlanks(by *rand.Rand, least int) string {
	return letters(by, " \t\n", least+by.Intn(3)*by.Intn(2))
}

// joined writes the pieces with any blanks, as few as none where they stay apart; beside it stands what comes of it.
func joined(by *rand.Rand, l []piece) (string, []api.Token) {
	var want []api.Token
	s := someBlanks(by, 0)
	for i, p := range l {
		want = append(want, api.Token{K: p.k, S: p.s, At: len(s)})
		s += p.written
		if i+1 < len(l) && sticks(p, l[i+1]) {
			s += someBlanks(by, 1)
		} else {
			s += someBlanks(by, 0)
		}
	}
	return s, append(want, anEnd(len(s)))
}

func TestAllAtRandom(t *testing.T) {
	by := rand.New(rand.NewSource(1))
	for range 20000 {
		s, want := joined(by, somePieces(by, 12))
		wantAnswer(t, s, answer{want, len(s), api.OK})
		wantAsModel(t, s)
		i := by.Intn(len(s) + 1)
		wantAsModel(t, s[:i])
		wantAsModel(t, s[i:])
		wantAsModel(t, s[:i]+letters(by, "aA0_<=>-'\\?\xff\r", 1+by.Intn(2))+s[i:])
		b := make([]byte, by.Intn(8))
		by.Read(b)
		wantAsModel(t, string(b))
	}
}

// P4: what was answered belongs to the caller alone.
func TestListsAreApart(t *testing.T) {
	const s = "SEQ a1 'b' 12 ->"
	want := all(s).l
	l, _, _ := lex.All(s)
	r, _, _ := lex.New(s)
	lex.All("other (1)")
	if !slices.Equal(l, want) {
		t.Errorf("All's list behind another call: %v", l)
	}
	for i := range l {
		l[i] = api.Token{K: 9, S: "z", At: -1}
	}
	_ = append(l[:1], l[1:]...)
	wantAnswer(t, s, answer{want, len(s), api.OK})
	for _, x := range want {
		if got := r.Next(); got != x {
			t.Errorf("Next: %v, not %v", got, x)
		}
	}
	again, _, _ := lex.New(s)
	if got := again.Peek(); got != want[0] {
		t.Errorf("Peek: %v", got)
	}
}

// P17.2

func reader(t *testing.T, s string) *lex.Reader {
	t.Helper()
	r, at, e := lex.New(s)
	if r == nil || at != len(s) || e != api.OK {
		t.Fatalf("New(%.80q): %d, %d", s, at, e)
	}
	return r
}

// wantStand: where r stands, and that looking takes nothing.
func wantStand(t *testing.T, r *lex.Reader, mark int, next api.Token) {
	t.Helper()
	for range 2 {
		if got := r.Peek(); got != next {
			t.Fatalf("Peek behind %d: %v, not %v", mark, got, next)
		}
		if got := r.At(); got != next.At {
			t.Fatalf("At behind %d: %d, not %d", mark, got, next.At)
		}
		if got := r.Mark(); got != mark {
			t.Fatalf("Mark: %d, not %d", got, mark)
		}
	}
}

func TestNew(t *testing.T) {
	wantStand(t, reader(t, "a->b"), 0, aName("a", 0))
	wantStand(t, reader(t, ""), 0, anEnd(0))
	wantStand(t, reader(t, " \n"), 0, anEnd(2))
	wantStand(t, reader(t, "  SEQ"), 0, aWord("SEQ", 2))
	wantFault(t, "a ?", 2)
	wantRefused(t, strings.Repeat(" ", api.MaxSource+1), 0, api.ErrLong)
	wantRefused(t, "a '"+strings.Repeat("a", api.MaxText+1)+"'", 2, api.ErrLong)
	a, b := reader(t, "a b"), reader(t, "a b")
	a.Next()
	wantStand(t, a, 1, aName("b", 2))
	wantStand(t, b, 0, aName("a", 0))
}

const each = " SEQ a_1\t12\n'x' -> ''  "

func eachToken() []api.Token {
	return []api.Token{aWord("SEQ", 1), aName("a_1", 5), anInt("12", 9), aText("x", 12), aSign("->", 16), aText("", 19), anEnd(23)}
}

func TestNext(t *testing.T) {
	r := reader(t, each)
	for i, x := range eachToken() {
		wantStand(t, r, i, x)
		if got := r.Next(); got != x {
			t.Errorf("Next behind %d: %v, not %v", i, got, x)
		}
	}
	for range 5 { // the end stays, and is never taken
		wantStand(t, r, 6, anEnd(23))
		if got := r.Next(); got != anEnd(23) {
			t.Errorf("Next at the end: %v", got)
		}
	}
	empty := reader(t, "")
	for range 3 {
		if got := empty.Next(); got != anEnd(0) {
			t.Errorf("Next of an empty text: %v", got)
		}
		wantStand(t, empty, 0, anEnd(0))
	}
}

func TestSignTakes(t *testing.T) {
	for _, s := range signs() {
		r := reader(t, " "+s+" a")
		for _, other := range append(signs(), "", " ", s+" ", " "+s, s+s, s+"a", "a", "?", "'") {
			if other != s && r.Sign(other) {
				t.Errorf("Sign(%q) at %s", other, s)
			}
		}
		if r.Word(s) {
			t.Errorf("Word at %s", s)
		}
		wantStand(t, r, 0, aSign(s, 1))
		if !r.Sign(s) {
			t.Errorf("Sign at %s", s)
		}
		wantStand(t, r, 1, aName("a", len(s)+2))
		if r.Sign(s) {
			t.Errorf("Sign(%s) at a name", s)
		}

		quoted := reader(t, "'"+s+"' "+s)
		if quoted.Sign(s) {
			t.Errorf("Sign(%s) at a text", s)
		}
		quoted.Next()
		if !quoted.Sign(s) || quoted.Sign(s) || quoted.Mark() != 2 {
			t.Errorf("Sign(%s) behind a text", s)
		}
	}
}

func TestWordTakes(t *testing.T) {
	for _, s := range []string{"SEQ", "A", "Z", strings.Repeat("W", api.MaxName)} {
		r := reader(t, s+",1")
		for _, other := range []string{"", s[:len(s)-1], s + "X", s + " ", " " + s, strings.ToLower(s), "B", ",", "OR"} {
			if r.Word(other) {
				t.Errorf("Word(%q) at %s", other, s)
			}
		}
		if r.Sign(s) {
			t.Errorf("Sign at %s", s)
		}
		wantStand(t, r, 0, aWord(s, 0))
		if !r.Word(s) {
			t.Errorf("Word at %s", s)
		}
		wantStand(t, r, 1, aSign(",", len(s)))
		if r.Word(s) || r.Word(",") {
			t.Errorf("Word(%s) at a sign", s)
		}

		quoted := reader(t, "'"+s+"'"+s)
		if quoted.Word(s) {
			t.Errorf("Word(%s) at a text", s)
		}
		quoted.Next()
		if !quoted.Word(s) || quoted.Word(s) || quoted.Mark() != 2 {
			t.Errorf("Word(%s) behind a text", s)
		}
	}
}

// Neither takes anything of another kind, also where the signs are the same, and none of them is empty.
func TestSignAndWordOfOtherKinds(t *testing.T) {
	for i, x := range eachToken() {
		r := reader(t, each)
		for range i {
			r.Next()
		}
		for _, s := range []string{"", x.S} {
			if x.K != api.TSign && r.Sign(s) || x.K != api.TWord && r.Word(s) {
				t.Errorf("Sign or Word of %q at %v", s, x)
			}
		}
		if r.Sign("") || r.Word("") {
			t.Errorf("Sign or Word of an empty text at %v", x)
		}
		wantStand(t, r, i, x)
	}
	for _, s := range []string{"", "''", " ", "a", "12", "SEQ", "->"} {
		r := reader(t, s)
		if r.Sign("") || r.Word("") || r.Mark() != 0 {
			t.Errorf("Sign or Word of an empty text at %q", s)
		}
	}
}

func TestName(t *testing.T) {
	for i, x := range eachToken() {
		r := reader(t, each)
		for range i {
			r.Next()
		}
		s, ok := r.Name()
		if x.K != api.TName {
			if s != "" || ok {
				t.Errorf("Name at %v: %s, %t", x, s, ok)
			}
			wantStand(t, r, i, x)
			continue
		}
		if s != x.S || !ok {
			t.Errorf("Name at %v: %s, %t", x, s, ok)
		}
		wantStand(t, r, i+1, eachToken()[i+1])
	}
	r := reader(t, "'a' a b")
	if s, ok := r.Name(); s != "" || ok {
		t.Errorf("Name at a text: %s, %t", s, ok)
	}
	r.Next()
	for _, want := range []string{"a", "b"} {
		if s, ok := r.Name(); s != want || !ok {
			t.Errorf("Name: %s, %t, not %s", s, ok, want)
		}
	}
	if s, ok := r.Name(); s != "" || ok || r.Mark() != 3 {
		t.Errorf("Name at the end: %s, %t", s, ok)
	}
}

// wantInt asks at the number s, with a name behind it.
func wantInt(t *testing.T, s string, most int64, want int64, ok bool) {
	t.Helper()
	r := reader(t, s+" b")
	if n, got := r.Int(most); n != want || got != ok {
		t.Errorf("Int(%d) at %s: %d, %t, not %d, %t", most, s, n, got, want, ok)
	}
	if ok {
		wantStand(t, r, 1, aName("b", len(s)+1))
	} else {
		wantStand(t, r, 0, anInt(s, 0))
	}
}

func TestInt(t *testing.T) {
	for _, n := range []int64{0, 1, 2, 9, 10, 99, 1000, 1 << 31, 1<<40 - 1, 1 << 40, 1 << 53, 1e18, math.MaxInt64 - 1, math.MaxInt64} {
		s := strconv.FormatInt(n, 10)
		wantInt(t, s, n, n, true)
		wantInt(t, s, math.MaxInt64, n, true)
		if n < math.MaxInt64 {
			wantInt(t, s, n+1, n, true)
		}
		for _, most := range []int64{n - 1, -1, -n - 1, math.MinInt64} {
			wantInt(t, s, most, 0, false)
		}
		if n > 0 {
			wantInt(t, s, 0, 0, false)
		}
	}
	for _, s := range []string{"9223372036854775808", "9223372036854775809", "9300000000000000000", "9999999999999999999"} { // no int64
		for _, most := range []int64{math.MaxInt64, 1 << 40, 0, -1, math.MinInt64} {
			wantInt(t, s, most, 0, false)
		}
	}
}

func TestIntOfOtherKinds(t *testing.T) {
	for i, x := range eachToken() {
		r := reader(t, each)
		for range i {
			r.Next()
		}
		if n, ok := r.Int(math.MaxInt64); (x.K == api.TInt) != ok || n != 12 && ok || n != 0 && !ok {
			t.Errorf("Int at %v: %d, %t", x, n, ok)
		}
	}
	for _, s := range []string{"", "'12'", "'0'", "''", "-1", "+1", "a1", "A1", ".5"} {
		r := reader(t, s)
		if n, ok := r.Int(math.MaxInt64); n != 0 || ok || r.Mark() != 0 {
			t.Errorf("Int at %q: %d, %t", s, n, ok)
		}
	}
	r := reader(t, "-12 7")
	if !r.Sign("-") {
		t.Error("Sign at a -")
	}
	for _, want := range []int64{12, 7} {
		if n, ok := r.Int(12); n != want || !ok {
			t.Errorf("Int: %d, %t, not %d", n, ok, want)
		}
	}
}

func TestAtAndMark(t *testing.T) {
	r := reader(t, "  a (\n'b c'12 ")
	for i, at := range []int{2, 4, 6, 11, 14, 14, 14} {
		if got := r.At(); got != at {
			t.Errorf("At behind %d: %d, not %d", i, got, at)
		}
		if got := r.Mark(); got != min(i, 4) {
			t.Errorf("Mark behind %d: %d", i, got)
		}
		r.Next()
	}
}

func TestBack(t *testing.T) {
	want := eachToken()
	end := len(want) - 1
	for mark := range want {
		for n := -2; n <= end+3; n++ {
			r := reader(t, each)
			for range mark {
				r.Next()
			}
			r.Back(n)
			stand := mark
			if 0 <= n && n <= mark {
				stand = n
			}
			for i := stand; i < len(want); i++ { // all is read again from there on
				wantStand(t, r, i, want[i])
				if got := r.Next(); got != want[i] {
					t.Errorf("Next behind Back(%d) at %d: %v, not %v", n, mark, got, want[i])
				}
			}
			wantStand(t, r, end, want[end])
		}
		r := reader(t, each)
		for range mark {
			r.Next()
		}
		for _, n := range []int{math.MinInt, -1, mark + 1, math.MaxInt, mark} {
			r.Back(n)
			wantStand(t, r, mark, want[mark])
		}
	}
}

// What was taken stays known behind Back no longer: Mark is the bound again.
func TestBackAgain(t *testing.T) {
	r := reader(t, "a b c d")
	for range 4 {
		r.Next()
	}
	r.Back(2)
	r.Back(3)
	wantStand(t, r, 2, aName("c", 4))
	r.Back(0)
	r.Back(1)
	wantStand(t, r, 0, aName("a", 0))
	m := r.Mark()
	if s, _ := r.Name(); s != "a" || r.Sign("->") {
		t.Errorf("Name: %s", s)
	}
	r.Back(m)
	wantStand(t, r, 0, aName("a", 0))
}

// told is the model of a reader: the tokens, and how many were taken.
type told struct {
	l    []api.Token
	mark int
}

// next answers the token that the call takes, if it is one for which ok holds.
func (m *told) next(ok func(api.Token) bool) bool {
	x := m.l[m.mark]
	if !ok(x) {
		return false
	}
	if x.K != api.TEnd {
		m.mark++
	}
	return true
}

// isInt reckons without num.
func isInt(x api.Token, most int64) (int64, bool) {
	n, err := strconv.ParseInt(x.S, 10, 64)
	if x.K != api.TInt || err != nil || n > most {
		return 0, false
	}
	return n, true
}

// called does one call on both, by a number, and answers what each told.
func (m *told) called(r *lex.Reader, call int, s string, n int64) (string, string) {
	x := m.l[m.mark]
	switch call {
	case 0:
		m.next(func(api.Token) bool { return true })
		return fmt.Sprint(r.Next()), fmt.Sprint(x)
	case 1:
		want := m.next(func(x api.Token) bool { return x.K == api.TSign && x.S == s })
		return fmt.Sprint(r.Sign(s)), fmt.Sprint(want)
	case 2:
		want := m.next(func(x api.Token) bool { return x.K == api.TWord && x.S == s })
		return fmt.Sprint(r.Word(s)), fmt.Sprint(want)
	case 3:
		got, ok := r.Name()
		if !m.next(func(x api.Token) bool { return x.K == api.TName }) {
			return fmt.Sprintf("%q %t", got, ok), `"" false`
		}
		return fmt.Sprintf("%q %t", got, ok), fmt.Sprintf("%q true", x.S)
	case 4:
		got, ok := r.Int(n)
		want, is := isInt(x, n)
		m.next(func(api.Token) bool { return is })
		return fmt.Sprint(got, ok), fmt.Sprint(want, is)
	}
	r.Back(int(n))
	if 0 <= n && n <= int64(m.mark) {
		m.mark = int(n)
	}
	return "", ""
}

// someCall asks mostly for what may come.
func (m *told) someCall(by *rand.Rand) (int, string, int64) {
	x := m.l[m.mark]
	s := x.S
	if by.Intn(3) == 0 {
		s = m.l[by.Intn(len(m.l))].S
	}
	call := by.Intn(6)
	if call == 5 {
		return call, s, int64(m.mark + 1 - by.Intn(6)*by.Intn(4))
	}
	n, err := strconv.ParseInt(x.S, 10, 64)
	if err != nil || by.Intn(4) == 0 {
		n = int64(by.Uint64())
	}
	return call, s, n - int64(by.Intn(3)) + 1
}

func TestReaderAtRandom(t *testing.T) {
	by := rand.New(rand.NewSource(2))
	for range 5000 {
		s, l := joined(by, somePieces(by, 10))
		r, m := reader(t, s), &told{l, 0}
		for range 60 {
			call, arg, n := m.someCall(by)
			if got, want := m.called(r, call, arg, n); got != want {
				t.Fatalf("call %d of %q, %d behind %d of %q: %s, not %s", call, arg, n, m.mark, s, got, want)
			}
			wantStand(t, r, m.mark, m.l[m.mark])
		}
	}
}

// P17.3

func wantNone(t *testing.T, name string, r *lex.Reader) {
	t.Helper()
	if x, y := r.Peek(), r.Next(); x != anEnd(0) || y != anEnd(0) {
		t.Errorf("a reader that is %s: %v, %v", name, x, y)
	}
	for _, s := range append(signs(), "", "SEQ", "a", "1") {
		if r.Sign(s) || r.Word(s) {
			t.Errorf("Sign or Word of %q of a reader that is %s", s, name)
		}
	}
	if s, ok := r.Name(); s != "" || ok {
		t.Errorf("Name of a reader that is %s: %s, %t", name, s, ok)
	}
	for _, most := range []int64{math.MinInt64, -1, 0, 1, math.MaxInt64} {
		if n, ok := r.Int(most); n != 0 || ok {
			t.Errorf("Int(%d) of a reader that is %s: %d, %t", most, name, n, ok)
		}
	}
	if at, mark := r.At(), r.Mark(); at != 0 || mark != 0 {
		t.Errorf("a reader that is %s: at %d, %d taken", name, at, mark)
	}
}

func TestNoReader(t *testing.T) {
	refused, _, _ := lex.New("a ?")
	long, _, _ := lex.New(strings.Repeat("a ", api.MaxSource))
	text, _, _ := lex.New("'a")
	for name, r := range map[string]*lex.Reader{"nil": nil, "new": new(lex.Reader), "literal": {}, "refused": refused, "of a long text": long, "of a wrong text": text} {
		for _, n := range []int{0, 1, -1, 2, math.MaxInt, math.MinInt} {
			wantNone(t, name, r)
			r.Back(n)
			wantNone(t, name, r)
		}
	}
}

// P17.4

// unplaced leaves out where the tokens are.
func unplaced(l []api.Token) []api.Token {
	l = slices.Clone(l)
	for i := range l {
		l[i].At = 0
	}
	return l
}

func wantSameTokens(t *testing.T, a, b string) {
	t.Helper()
	x, y := all(a), all(b)
	if x.e != api.OK || y.e != api.OK || !slices.Equal(unplaced(x.l), unplaced(y.l)) {
		t.Errorf("All(%.200q): %v; All(%.200q): %v", a, x, b, y)
	}
}

func TestBlanksChangePlacesAlone(t *testing.T) {
	const s = "SEQ(buy a,!sell b)->c{1,2}<=-3 AND'it\\'s  so'<>x.y|[0]"
	for _, other := range []string{
		" SEQ ( buy a , ! sell b ) -> c { 1 , 2 } <= - 3 AND 'it\\'s  so' <> x . y | [ 0 ] ",
		"SEQ\n(\nbuy\na\n,\n!\nsell\nb\n)\n->\nc\n{\n1\n,\n2\n}\n<=\n-\n3\nAND\n'it\\'s  so'\n<>\nx\n.\ny\n|\n[\n0\n]\n",
		"\t\t SEQ(buy\t\n\ta,!sell\n\n\nb)->c{1,2}<=-3\tAND'it\\'s  so'<>x.y|[0]   ",
		"SEQ(buy a, !sell b) -> c{1,2} <= -3 AND 'it\\'s  so' <> x.y | [0]",
	} {
		wantSameTokens(t, s, other)
	}
	for _, x := range [][2]string{{"", " "}, {"", "\n\t"}, {"aB", "a B"}, {"Ba", "B\na"}, {"1a", "1\ta"}, {"A1", "A 1"}, {"-->", "- ->"}, {"<=>", "<= >"}, {"<<", "<\n<"}, {"''''", "'' ''"}, {"a b", "a\nb"}, {"1 2", "1\t\t2"}, {"< =", "<\n="}} {
		wantSameTokens(t, x[0], x[1])
	}
}

// Places go up by as much as there are more blanks ahead of them, and the same is read.
func TestBlanksAtRandom(t *testing.T) {
	by := rand.New(rand.NewSource(3))
	for range 20000 {
		l := somePieces(by, 12)
		a, x := joined(by, l)
		b, y := joined(by, l)
		wantAnswer(t, a, answer{x, len(a), api.OK})
		wantAnswer(t, b, answer{y, len(b), api.OK})
		wantSameTokens(t, a, b)
	}
}

func TestBlanksAheadOfAFault(t *testing.T) {
	by := rand.New(rand.NewSource(4))
	for range 5000 {
		l := somePieces(by, 6)
		a, _ := joined(by, l)
		b, _ := joined(by, l)
		for _, fault := range []string{"?", "00", "'\\q'", "\xff", "'" + strings.Repeat("a", api.MaxText+1) + "'", strings.Repeat("B", api.MaxName+1)} {
			x, y := all(a+" "+fault), all(b+"\n"+fault)
			if x.e == api.OK || x.e != y.e || x.at-len(a) != y.at-len(b) || len(x.l) != 0 || len(y.l) != 0 {
				t.Fatalf("All(%q): %v; All(%q): %v", a+" "+fault, x, b+"\n"+fault, y)
			}
		}
	}
}

// Whatever the text: it is read as by the model, and read again, with other blanks between its tokens, as the same.
func FuzzAll(f *testing.F) {
	for _, s := range []string{"", " ", "a->b", "SEQ(a1 , 'x\\'y')->12<=\n<>", "a ?", "01", "12345678901234567890", "a 'b", "_", "'\\x41'", "\u00e4", strings.Repeat("A", api.MaxName+1), strings.Repeat("(", api.MaxSource+1)} {
		f.Add(s)
	}
	f.Fuzz(func(t *testing.T, s string) {
		wantAsModel(t, s)
		got := all(s)
		if got.e != api.OK {
			return
		}
		again := ""
		for i, x := range got.l[:len(got.l)-1] {
			again += "\n" + strings.TrimRight(s[x.At:got.l[i+1].At], " \t\n")
		}
		if len(again) <= api.MaxSource {
			wantSameTokens(t, s, again)
		}
	})
}
