package word_test

import (
	"bytes"
	"fmt"
	"math/rand"
	"regexp"
	"slices"
	"strings"
	"testing"

	"haruspex/api"
	"haruspex/word"
)

// one has just the byte c, which need be no text of runes.
func one(c int) string { return string([]byte{byte(c)}) }

func allBytes() string {
	b := make([]byte, 256)
	for i := range b {
		b[i] = byte(i)
	}
	return string(b)
}

// P5.1

func wantName(t *testing.T, s string, want bool) {
	t.Helper()
	if got := word.Name(s); got != want {
		t.Errorf("Name(%q): %t", s, got)
	}
}

func wantUpper(t *testing.T, s string, want bool) {
	t.Helper()
	if got := word.Upper(s); got != want {
		t.Errorf("Upper(%q): %t", s, got)
	}
}

func TestName(t *testing.T) {
	for _, s := range []string{"a", "z", "b", "buy", "sell", "v0", "a1_", "a_", "a__", "z9", "a0", "abcdefghijklmnopqrstuvwxyz", "x0123456789_", strings.Repeat("a", api.MaxName-1), strings.Repeat("a", api.MaxName), "z" + strings.Repeat("_", api.MaxName-1), "q" + strings.Repeat("9", api.MaxName-1)} {
		wantName(t, s, true)
	}
	for _, s := range []string{
		"", "1a", "0", "9", "_", "_a", "1", "A", "aB", "Ba", "Z", "aZ", "SEQ", "a b", " a", "a ", "a-b", "a.b", "a'", "'a'", "a\\", "a\x00", "\x00", "\x00a", "a\n", "\ta",
		"`", "{", "a`", "a{", "a/", "a:", "a@", "a[", "a^", // beside a to z, 0 to 9, A to Z and _
		"\xff", "a\xff", "\xe1", "a\xe1", "a\x80", "\u00e4", "a\u00e4", "\uff41", "a\uff41", "a\u0661", "\u0430", "a\ufffd", "a\u203f", "\U0001d41a", "a\xc1\xa1",
		strings.Repeat("a", api.MaxName+1), "a" + strings.Repeat("9", api.MaxName), strings.Repeat("a", api.MaxName) + "A", strings.Repeat("a", api.MaxName) + "\xff", strings.Repeat("a", api.MaxName-1) + "A", strings.Repeat("a", api.MaxName-1) + "\u00e4", strings.Repeat("\u00e4", api.MaxName/2), strings.Repeat("a", 1<<20),
	} {
		wantName(t, s, false)
	}
}

func TestUpper(t *testing.T) {
	for _, s := range []string{"A", "Z", "B", "SEQ", "PATTERN", "ABCDEFGHIJKLMNOPQRSTUVWXYZ", strings.Repeat("A", api.MaxName-1), strings.Repeat("A", api.MaxName), strings.Repeat("Z", api.MaxName)} {
		wantUpper(t, s, true)
	}
	for _, s := range []string{
		"", "S1", "1", "1S", "A_", "_", "_A", "a", "Aa", "aA", "z", "seq", "Seq", "SEq", "A B", " A", "A ", "A\x00", "\x00", "A'", "A\n",
		"@", "[", "A@", "A[", "@A", "[A", "`", "{", "/", ":",
		"\xff", "A\xff", "\xc1", "A\xc1", "A\x80", "\u00c4", "A\u00c4", "\uff21", "A\uff21", "\u0410", "A\ufffd", "\U0001d400", "A\xc1\x81",
		strings.Repeat("A", api.MaxName+1), strings.Repeat("A", api.MaxName) + "a", strings.Repeat("A", api.MaxName-1) + "a", strings.Repeat("\u00c4", api.MaxName/2), strings.Repeat("A", 1<<20),
	} {
		wantUpper(t, s, false)
	}
}

// Each byte alone, as the first of two and of as many as may be, within, and last.
func TestEachByteInNames(t *testing.T) {
	first, later, upper := regexp.MustCompile(`^[a-z]$`), regexp.MustCompile(`^[a-z0-9_]$`), regexp.MustCompile(`^[A-Z]$`)
	for c := range 256 {
		s := one(c)
		rest, caps := strings.Repeat("k", api.MaxName-2), strings.Repeat("K", api.MaxName-2)
		begins, goesOn, isUpper := first.MatchString(s), later.MatchString(s), upper.MatchString(s)
		for _, tail := range []string{"", "a", "_", rest, rest + "k"} {
			wantName(t, s+tail, begins)
			wantName(t, s+tail+"A", false)
		}
		for _, head := range []string{"a", "a9", "b" + rest} {
			wantName(t, head+s, goesOn)
		}
		wantName(t, "a"+s+rest, goesOn)
		wantName(t, "a"+s+rest+"k", false)
		for _, tail := range []string{"", "A", caps, caps + "K"} {
			wantUpper(t, s+tail, isUpper)
			wantUpper(t, tail+s, isUpper)
			wantUpper(t, s+tail+"a", false)
		}
		wantUpper(t, "A"+s+caps, isUpper)
		wantUpper(t, "A"+s+caps+"K", false)
	}
}

func TestEachTwoBytesInNames(t *testing.T) {
	name, upper := regexp.MustCompile(`^[a-z][a-z0-9_]$`), regexp.MustCompile(`^[A-Z][A-Z]$`)
	for a := range 256 {
		for b := range 256 {
			s := one(a) + one(b)
			wantName(t, s, name.MatchString(s))
			wantUpper(t, s, upper.MatchString(s))
		}
	}
}

func TestLengthsOfNames(t *testing.T) {
	for n := range 3 * api.MaxName {
		fits := n >= 1 && n <= api.MaxName
		wantName(t, strings.Repeat("a", n), fits)
		wantUpper(t, strings.Repeat("A", n), fits)
		wantName(t, "a"+strings.Repeat("7", n), n < api.MaxName)
		wantName(t, strings.Repeat("A", n), false)
		wantUpper(t, strings.Repeat("a", n), false)
	}
}

func wantFold(t *testing.T, s string, want string) {
	t.Helper()
	if got := word.Fold(s); got != want {
		t.Errorf("Fold(%q): %q, not %q", s, got, want)
	}
}

func TestFold(t *testing.T) {
	for _, x := range [][2]string{
		{"", ""}, {"A", "a"}, {"Z", "z"}, {"a", "a"}, {"SEQ", "seq"}, {"aBZ9", "abz9"}, {"A b_C-D", "a b_c-d"}, {"@AZ[", "@az["}, {"`az{", "`az{"}, {"09_ '\\", "09_ '\\"},
		{"ABCDEFGHIJKLMNOPQRSTUVWXYZ", "abcdefghijklmnopqrstuvwxyz"}, {"abcdefghijklmnopqrstuvwxyz", "abcdefghijklmnopqrstuvwxyz"},
		{"\u00c4A\u00c4", "\u00c4a\u00c4"}, {"\u0130I\u212a", "\u0130i\u212a"}, {"\uff21A", "\uff21a"}, {"\U0001d400B", "\U0001d400b"}, {"\ufffdC", "\ufffdc"}, // signs beyond a byte that have a small one, or not
		{"\xffA\xff", "\xffa\xff"}, {"\xc3A", "\xc3a"}, {"\xe2\x84A", "\xe2\x84a"}, {"\xc1\x81", "\xc1\x81"}, {"\xed\xa0\x80Z", "\xed\xa0\x80z"}, {"\x00A\x00", "\x00a\x00"}, // no runes
		{strings.Repeat("Ab", 5000), strings.Repeat("ab", 5000)},
	} {
		wantFold(t, x[0], x[1])
	}
}

// folded is told byte by byte.
func folded(s string) string {
	b := []byte(s)
	for i, c := range b {
		if at := strings.IndexByte("ABCDEFGHIJKLMNOPQRSTUVWXYZ", c); at >= 0 {
			b[i] = "abcdefghijklmnopqrstuvwxyz"[at]
		}
	}
	return string(b)
}

func TestFoldOfEachTwoBytes(t *testing.T) {
	for a := range 256 {
		wantFold(t, one(a), folded(one(a)))
		for b := range 256 {
			s := one(a) + one(b)
			wantFold(t, s, folded(s))
			wantFold(t, "\xe2"+s+"Q", folded("\xe2"+s+"Q"))
		}
	}
	wantFold(t, allBytes(), folded(allBytes()))
}

func TestLess(t *testing.T) {
	for _, x := range [][2]string{
		{"", "a"}, {"", "\x00"}, {"a", "ab"}, {"a", "b"}, {"ab", "b"}, {"aa", "ab"}, {"a", "a\x00"}, {"abc", "abd"}, {"abc", "abcd"}, {"B", "a"}, {"Z", "a"}, {"A", "a"}, {"a10", "a2"}, {"a9", "a_"}, {"a_", "aa"}, {"a ", "a!"},
		{"a", "\x80"}, {"z", "\xff"}, {"\x7f", "\x80"}, {"\x80", "\xff"}, {"\xfe", "\xff"}, {"z", "\u00e4"}, {"\uffff", "\U00010000"}, {"\xc3", "\u00e4"}, {"a\xff", "b"}, {"\x00", "\x00\x00"}, {"\x00", "\x01"},
		{strings.Repeat("a", 5000), strings.Repeat("a", 5001)}, {strings.Repeat("a", 5000) + "a", strings.Repeat("a", 5000) + "b"},
	} {
		if !word.Less(x[0], x[1]) {
			t.Errorf("Less(%q, %q): false", x[0], x[1])
		}
		if word.Less(x[1], x[0]) {
			t.Errorf("Less(%q, %q): true", x[1], x[0])
		}
		for _, s := range x {
			if word.Less(s, s) {
				t.Errorf("Less(%q, %q): true", s, s)
			}
		}
	}
}

func TestLessIsByBytes(t *testing.T) {
	r := rand.New(rand.NewSource(1))
	for a := range 256 {
		for b := range 256 {
			if got := word.Less(one(a), one(b)); got != (a < b) {
				t.Errorf("Less(%q, %q): %t", one(a), one(b), got)
			}
		}
	}
	for range 20000 {
		a, b := someText(r, 4), someText(r, 4)
		if got := word.Less(a, b); got != (bytes.Compare([]byte(a), []byte(b)) < 0) {
			t.Errorf("Less(%q, %q): %t", a, b, got)
		}
		if c := a + someText(r, 3); word.Less(a, c) != (a != c) || word.Less(c, a) {
			t.Errorf("%q, and %q behind it", a, c[len(a):])
		}
	}
}

// P5.2

// someText has signs of all kinds, those that are escaped and those of the escapes often.
func someText(r *rand.Rand, most int) string {
	const often = "'\\x'\\x 0189afAFgnt~\x7f\x1f\x00\x80\xff"
	b := make([]byte, r.Intn(most+1))
	for i := range b {
		b[i] = often[r.Intn(len(often))]
		if r.Intn(4) == 0 {
			b[i] = byte(r.Intn(256))
		}
	}
	return string(b)
}

// quotedByte writes by the chapter's words.
func quotedByte(c byte) string {
	switch {
	case c == '\'' || c == '\\':
		return "\\" + string(rune(c))
	case c < 0x20 || c > 0x7e:
		return fmt.Sprintf("\\x%02x", c)
	}
	return string(rune(c))
}

func quoted(s string) string {
	out := "'"
	for _, c := range []byte(s) {
		out += quotedByte(c)
	}
	return out + "'"
}

func wantQuote(t *testing.T, s string, want string) {
	t.Helper()
	if got, e := word.Quote(s); got != want || e != api.OK {
		t.Errorf("Quote(%.60q): %s, %d, not %s", s, got, e, want)
	}
}

func TestQuote(t *testing.T) {
	for _, x := range [][2]string{
		{"", `''`}, {"a", `'a'`}, {"it's", `'it\'s'`}, {"it's\x01\\", `'it\'s\x01\\'`}, {"'", `'\''`}, {"''", `'\'\''`}, {"\\", `'\\'`}, {"\\'", `'\\\''`}, {"\\x41", `'\\x41'`}, {"x", `'x'`}, {"xx00", `'xx00'`},
		{"\"", `'"'`}, {"`", "'`'"}, {"a b", `'a b'`}, {" ", `' '`}, {"~", `'~'`}, {"!", `'!'`}, {"}", `'}'`}, {"NULL", `'NULL'`}, {"-- ;", `'-- ;'`},
		{"\x00", `'\x00'`}, {"\x1f", `'\x1f'`}, {"\x7f", `'\x7f'`}, {"\x80", `'\x80'`}, {"\xff", `'\xff'`}, {"\xab", `'\xab'`}, {"\t\n\r", `'\x09\x0a\x0d'`}, {"\x1f \x7e\x7f", `'\x1f ~\x7f'`},
		{"\u00e4", `'\xc3\xa4'`}, {"\u20ac", `'\xe2\x82\xac'`}, {"\U0001f600", `'\xf0\x9f\x98\x80'`}, {"\ufffd", `'\xef\xbf\xbd'`}, {"\xc3", `'\xc3'`}, {"\xc3a", `'\xc3a'`}, {"\xe2\x82", `'\xe2\x82'`},
	} {
		wantQuote(t, x[0], x[1])
	}
}

func TestQuoteOfEachByte(t *testing.T) {
	for c := range 256 {
		wantQuote(t, one(c), quoted(one(c)))
		wantQuote(t, "a"+one(c)+"f", quoted("a"+one(c)+"f"))
	}
	wantQuote(t, allBytes(), quoted(allBytes()))
}

func TestQuoteAtItsLimit(t *testing.T) {
	for _, part := range []string{"a", "'", "\\", "\x00", "\xff", " "} {
		for n := api.MaxText - 2; n <= api.MaxText; n++ {
			s := strings.Repeat(part, n)
			wantQuote(t, s, quoted(s))
		}
		for _, n := range []int{api.MaxText + 1, api.MaxText + 2, 2 * api.MaxText, 1 << 17} {
			if got, e := word.Quote(strings.Repeat(part, n)); got != "" || e != api.ErrLong {
				t.Errorf("Quote of %d times %q: %.60q, %d", n, part, got, e)
			}
		}
	}
	half := strings.Repeat("\u00e4", api.MaxText/2)
	wantQuote(t, half, quoted(half))
	if got, e := word.Quote(half + "a"); got != "" || e != api.ErrLong {
		t.Errorf("Quote of %d bytes, that are fewer runes: %.60q, %d", len(half)+1, got, e)
	}
}

type answer struct {
	s  string
	at int
	e  api.Errno
}

func wantUnquote(t *testing.T, s string, want answer) {
	t.Helper()
	got, at, e := word.Unquote(s)
	if (answer{got, at, e}) != want {
		t.Errorf("Unquote(%.80q): %.60q, %d, %d, not %.60q, %d, %d", s, got, at, e, want.s, want.at, want.e)
	}
}

func wantFault(t *testing.T, s string, at int) {
	t.Helper()
	wantUnquote(t, s, answer{"", at, api.ErrForm})
}

func TestUnquote(t *testing.T) {
	for _, x := range []struct {
		s, want string
		at      int
	}{
		{`''`, "", 2}, {`'a'`, "a", 3}, {`'it\'s'`, "it's", 7}, {`'\''`, "'", 4}, {`'\\'`, "\\", 4}, {`'\\\''`, "\\'", 6}, {`'\\x41'`, "\\x41", 7}, {`'x'`, "x", 3}, {`' '`, " ", 3}, {`'~'`, "~", 3}, {`'"'`, "\"", 3},
		{`'\x00'`, "\x00", 6}, {`'\x1f'`, "\x1f", 6}, {`'\x7f'`, "\x7f", 6}, {`'\x80'`, "\x80", 6}, {`'\xff'`, "\xff", 6}, {`'\x0a1'`, "\n1", 7}, {`'\x09\x0a'`, "\t\n", 10}, {`'\xc3\xa4'`, "\u00e4", 10}, {`'\xfff'`, "\xfff", 7},

		// what stands behind it is not looked at
		{`'a\x7f' b`, "a\x7f", 7}, {`'' `, "", 2}, {`'''`, "", 2}, {`''''`, "", 2}, {`'a'b'`, "a", 3}, {`'a'\q`, "a", 3}, {"'a'\x00", "a", 3}, {"''\xff", "", 2}, {`''\`, "", 2}, {`'a' 'b'`, "a", 3}, {"'a'" + strings.Repeat("b", 1<<17), "a", 3}, {`'\\''`, "\\", 4},
	} {
		wantUnquote(t, x.s, answer{x.want, x.at, api.OK})
	}
}

func TestUnquoteRefuses(t *testing.T) {
	for _, x := range []struct {
		s  string
		at int
	}{
		// it does not begin so
		{"", 0}, {"a", 0}, {"a'", 0}, {" 'a'", 0}, {`"a"`, 0}, {"`a`", 0}, {"\\'a'", 0}, {"\\", 0}, {"x27a'", 0}, {"\x00", 0}, {"\x00'a'", 0}, {"\xff'a'", 0}, {"\u2019a\u2019", 0}, {"\xe2\x80", 0},

		// it does not end
		{"'", 1}, {"'a", 2}, {"'abc", 4}, {`'\'`, 3}, {`'\`, 2}, {`'a\`, 3}, {`'\\`, 3}, {`'\\\'`, 5}, {`'\x`, 3}, {`'\x4`, 4}, {`'\x0`, 4}, {`'\x00`, 5}, {`'\x00a`, 6}, {`'ab\xf`, 6}, {"'" + strings.Repeat("a", 1000), 1001}, {"'" + strings.Repeat("a", 1000) + `\x1`, 1004},

		// a byte that is not written as itself
		{"'\x01'", 1}, {"'\x00'", 1}, {"'a\x1f'", 2}, {"'ab\x7f'", 3}, {"'\x80'", 1}, {"'\xff'", 1}, {"'\n'", 1}, {"'a\tb'", 2}, {"'\u00e4'", 1}, {"'a\u20ac'", 2}, {"'a\U0001f600'", 2}, {"'\x00", 1}, {"'\xff", 1}, {"'a\x00\x01'", 2}, {"'a\ufffd'", 2}, {"'\xe2\x82'", 1},

		// behind a \ what is none of ', \, x
		{`'\q'`, 2}, {`'\n'`, 2}, {`'\X00'`, 2}, {`'\0'`, 2}, {`'\ '`, 2}, {`'a\"'`, 3}, {`'\\\a'`, 4}, {`'\u00e4'`, 2}, {"'\\\x00'", 2}, {"'\\\xff'", 2}, {"'\\\u00e4'", 2}, {`'\q`, 2}, {"'\\\n'", 2},

		// behind \x what is no digit
		{`'\x'`, 3}, {`'\x'0'`, 3}, {`'\x4'`, 4}, {`'\xg0'`, 3}, {`'\x0g'`, 4}, {`'\x0A'`, 4}, {`'\xA0'`, 3}, {`'\xFF'`, 3}, {`'\xfF'`, 4}, {`'\x/0'`, 3}, {`'\x0:'`, 4}, {"'\\x0`'", 4}, {`'\x@0'`, 3}, {`'\x\x00'`, 3}, {`'\x0\'`, 4}, {`'\x 0'`, 3}, {`'\x+1'`, 3}, {`'\x-1'`, 3}, {"'\\x\x000'", 3}, {"'\\x0\xff'", 4}, {"'\\x\uff10'", 3}, {`'a\xz`, 4}, {`'a\x0z`, 5}, {`'\x4g'`, 4},

		// \x of a byte that is written as itself, or with \ ahead
		{`'\x41'`, 1}, {`'\x20'`, 1}, {`'\x7e'`, 1}, {`'\x27'`, 1}, {`'\x5c'`, 1}, {`'\x78'`, 1}, {`'\x30'`, 1}, {`'ab\x61'`, 3}, {`'\x0a\x0b\x61'`, 9}, {`'\x41`, 1}, {`'\x41\x01'`, 1}, {`'a\x5cx'`, 2},

		// the first of several
		{"'\x01\\q'", 1}, {"'\\q\x01'", 2}, {"'\\x41\x01'", 1}, {"'\\x4\x01'", 4}, {`'\q\x41`, 2}, {`'\x41\q`, 1},
	} {
		wantFault(t, x.s, x.at)
	}
}

func TestUnquoteOfEachByte(t *testing.T) {
	const hex = "0123456789abcdef"
	for c := range 256 {
		s, isDigit := one(c), strings.Contains(hex, one(c))
		switch itself := quotedByte(byte(c)) == s; {
		case s == "'":
			wantUnquote(t, "'a"+s+"b'", answer{"a", 3, api.OK})
		case s == "\\":
			wantFault(t, "'a"+s+"b'", 3)
		case itself:
			wantUnquote(t, "'a"+s+"b'", answer{"a" + s + "b", 5, api.OK})
		default:
			wantFault(t, "'a"+s+"b'", 2)
		}
		if s != "'" {
			wantFault(t, s+"a'", 0)
		}
		if !strings.Contains("'\\x", s) {
			wantFault(t, "'a\\"+s+"b'", 3)
		}
		if !isDigit {
			wantFault(t, "'a\\x"+s+"0b'", 4)
			wantFault(t, "'a\\x0"+s+"b'", 5)
			wantFault(t, "'a\\x4"+s+"b'", 5)
		}
		byDigits := fmt.Sprintf("'a\\x%02xb' c", c)
		if c < 0x20 || c > 0x7e {
			wantUnquote(t, byDigits, answer{"a" + s + "b", 8, api.OK})
		} else {
			wantFault(t, byDigits, 2)
		}
		if capital := fmt.Sprintf("%02X", c); strings.ContainsAny(capital, "ABCDEF") {
			wantFault(t, "'a\\x"+capital+"b'", 4+strings.IndexAny(capital, "ABCDEF"))
		}
	}
}

func TestUnquoteAtItsLimit(t *testing.T) {
	long := func(part string, n int) string { return "'" + strings.Repeat(quotedByte(part[0]), n) }
	for _, part := range []string{"a", "'", "\\", "\x00", "\xff"} {
		for n := api.MaxText - 1; n <= api.MaxText; n++ {
			s := long(part, n) + "'"
			wantUnquote(t, s, answer{strings.Repeat(part, n), len(s), api.OK})
			wantUnquote(t, s+"'z", answer{strings.Repeat(part, n), len(s), api.OK})
		}
		for _, n := range []int{api.MaxText + 1, api.MaxText + 2, 2 * api.MaxText, 2*api.MaxText + 1, 1 << 17} {
			s := long(part, n)
			wantUnquote(t, s+"'", answer{"", 0, api.ErrLong})
			wantUnquote(t, s+"' \x00", answer{"", 0, api.ErrLong})

			// what can't be is told ahead of what is too long
			wantFault(t, s, len(s))
			wantFault(t, s+"\\", len(s)+1)
			wantFault(t, s+"\x00'", len(s))
			wantFault(t, s+"\\q'", len(s)+1)
			wantFault(t, s+"\\x0A'", len(s)+3)
			wantFault(t, s+"\\x41'", len(s))
		}
	}
}

// The shapes of the chapter's words, by which model reads.
var (
	unit  = `(?:[ !-&(-\[\]-~]|\\['\\]|\\x(?:[01][0-9a-f]|7f|[89a-f][0-9a-f]))`
	whole = regexp.MustCompile(`^'` + unit + `*'`)
	begun = regexp.MustCompile(`^'` + unit + `*`)
	units = regexp.MustCompile(unit)
)

type fault struct {
	shape *regexp.Regexp
	at    int
}

// faults: how a rest that is no unit begins, and the place of the fault in it.
var faults = []fault{
	{regexp.MustCompile(`^$`), 0},
	{regexp.MustCompile(`^[^\\]`), 0},
	{regexp.MustCompile(`^\\(?:$|[^'\\x])`), 1},
	{regexp.MustCompile(`^\\x(?:$|[^0-9a-f])`), 2},
	{regexp.MustCompile(`^\\x[0-9a-f](?:$|[^0-9a-f])`), 3},
	{regexp.MustCompile(`^\\x[2-7][0-9a-f]`), 0},
}

// model reads by the chapter's words, by other means.
func model(s string) answer {
	if all := whole.FindString(s); all != "" {
		var text []byte
		for _, u := range units.FindAllString(all[1:len(all)-1], -1) {
			c := u[len(u)-1]
			if len(u) == 4 {
				fmt.Sscanf(u[2:], "%x", &c)
			}
			text = append(text, c)
		}
		if len(text) > api.MaxText {
			return answer{"", 0, api.ErrLong}
		}
		return answer{string(text), len(all), api.OK}
	}
	head := begun.FindString(s)
	if head == "" {
		return answer{"", 0, api.ErrForm}
	}
	rest := s[len(head):]
	kind := slices.IndexFunc(faults, func(f fault) bool { return f.shape.MatchString(rest) })
	return answer{"", len(head) + faults[kind].at, api.ErrForm}
}

func wantAsModel(t *testing.T, s string) {
	t.Helper()
	wantUnquote(t, s, model(s))
}

// Each text of up to five of the signs that matter, alone and behind a '.
func TestEachShortText(t *testing.T) {
	const signs = "'\\x07fA\x01\xc3"
	var grow func(s string, more int)
	grow = func(s string, more int) {
		wantAsModel(t, s)
		wantAsModel(t, "'"+s)
		if more > 0 {
			for i := range len(signs) {
				grow(s+signs[i:i+1], more-1)
			}
		}
	}
	grow("", 5)
}

func TestEachTwoBytesQuoted(t *testing.T) {
	for a := range 256 {
		for b := range 256 {
			s := one(a) + one(b)
			for _, head := range []string{"", "'", "'\\", "'\\x", "'\\x0", "'\\xc3"} {
				wantAsModel(t, head+s+"'")
			}
			wantAsModel(t, "'"+s)
		}
	}
}

// Each byte in the place of each of a quoted text, and ahead of it; and each beginning of it.
func TestTextsWithOneOtherByte(t *testing.T) {
	for _, s := range []string{`'it\'s\x01\\' b`, `'\xc3\xa4 \x7f\\x41'`, `''`, `'\'\'' 'a'`} {
		for i := range len(s) {
			wantAsModel(t, s[:i])
			for c := range 256 {
				wantAsModel(t, s[:i]+one(c)+s[i+1:])
				wantAsModel(t, s[:i]+one(c)+s[i:])
			}
		}
	}
}

func TestUnquoteAtRandom(t *testing.T) {
	r := rand.New(rand.NewSource(2))
	for range 100000 {
		wantAsModel(t, "'"+someText(r, 12))
		s := quoted(someText(r, 12))
		wantAsModel(t, s+someText(r, 2))
		i := r.Intn(len(s))
		wantAsModel(t, s[:i]+someText(r, 2)+s[i+r.Intn(2):])
	}
}

// P5.3

func wantUndone(t *testing.T, s string) {
	t.Helper()
	q, e := word.Quote(s)
	if e != api.OK {
		t.Errorf("Quote(%.60q): %d", s, e)
	}
	for _, behind := range []string{"", "'", "\\", " b", "\xff", "x00"} {
		wantUnquote(t, q+behind, answer{s, len(q), api.OK})
	}
	for i := range len(q) { // no beginning of it is another's
		wantFault(t, q[:i], i)
	}
}

// wantOneWay: what is read as s is just what s is quoted as.
func wantOneWay(t *testing.T, q string) {
	t.Helper()
	s, at, e := word.Unquote(q)
	if e != api.OK {
		return
	}
	if again, e := word.Quote(s); e != api.OK || again != q[:at] {
		t.Errorf("Unquote(%.60q) is %.60q, which is quoted as %.60q, %d", q, s, again, e)
	}
}

func TestUnquoteUndoesQuote(t *testing.T) {
	wantUndone(t, "")
	wantUndone(t, allBytes())
	for a := range 256 {
		wantUndone(t, one(a))
		for b := range 256 {
			wantUndone(t, one(a)+one(b))
		}
	}
	for _, s := range []string{"it's", "\\x41", "\\\\''", "\u00e4\u20ac\U0001f600", "\xe2\x82", "\xff\xfe\x00", strings.Repeat("'", api.MaxText), strings.Repeat("\xff", api.MaxText)} {
		wantUndone(t, s)
	}
	r := rand.New(rand.NewSource(3))
	for range 5000 {
		wantUndone(t, someText(r, 20))
	}
}

func TestEachTextHasOneWay(t *testing.T) {
	for a := range 256 {
		for b := range 256 {
			s := one(a) + one(b)
			for _, q := range []string{"'" + s + "'", "'\\" + s + "'", "'\\x" + s + "'", "'\\x0" + s + "'"} {
				wantOneWay(t, q)
			}
		}
	}
	r := rand.New(rand.NewSource(4))
	for range 100000 {
		wantOneWay(t, "'"+someText(r, 10)+"'")
	}
}

func FuzzUnquote(f *testing.F) {
	for _, s := range []string{"", "a", "'", "''", `'it\'s\x01\\' b`, `'\x41'`, `'\x4'`, `'\x0A'`, `'\q'`, "'\x01'", "'\u00e4'", "'" + strings.Repeat("a", api.MaxText+1) + "'"} {
		f.Add(s)
	}
	f.Fuzz(func(t *testing.T, s string) {
		wantAsModel(t, s)
		wantOneWay(t, s)
	})
}

func FuzzQuote(f *testing.F) {
	for _, s := range []string{"", "a", "it's", "\\x41", "\u00e4", "\xff\x00", strings.Repeat("a", api.MaxText)} {
		f.Add(s)
	}
	f.Fuzz(func(t *testing.T, s string) {
		wantFold(t, s, folded(s))
		if len(s) > api.MaxText {
			if got, e := word.Quote(s); got != "" || e != api.ErrLong {
				t.Errorf("Quote of %d bytes: %.60q, %d", len(s), got, e)
			}
			return
		}
		wantQuote(t, s, quoted(s))
		wantUndone(t, s)
	})
}
