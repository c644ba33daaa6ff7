package value_test

import (
	"bytes"
	"encoding/binary"
	"fmt"
	"math"
	"math/big"
	"math/rand"
	"slices"
	"strings"
	"testing"

	"haruspex/api"
	"haruspex/value"
	"haruspex/wire"
)

var (
	full = strings.Repeat("a", api.MaxText)
	over = strings.Repeat("a", api.MaxText+1)
	odd  = []string{"\xff", "\xc3", "\xe2\x82", "a\x80b", "\xed\xa0\x80", "\x00", "it's", "\\", "'", "\\x41", "\n", "\x7f", "\u00e4", "\U0001f600", "NULL", "TRUE", "1", "-5", " "}
)

func numbers() []int64 {
	return []int64{0, 1, -1, 2, -2, 9, 10, -10, 63, 64, -64, -65, 127, 128, 255, 256, 300, -300, 1 << 32, -1 << 32, 1 << 53, math.MaxInt64, math.MaxInt64 - 1, math.MaxInt64 - 2, math.MinInt64, math.MinInt64 + 1, math.MinInt64 + 2}
}

func texts() []string {
	return append([]string{"", "a", "b", "ab", "B", full[:api.MaxText-1], full, strings.Repeat("'", api.MaxText), strings.Repeat("\\", api.MaxText), strings.Repeat("\xff", api.MaxText), strings.Repeat("\u00e4", api.MaxText/2)}, odd...)
}

// rightValues are written out, not made by the calls.
func rightValues() []api.Value {
	all := []api.Value{{}, {K: api.VBool}, {K: api.VBool, N: 1}}
	for _, n := range numbers() {
		all = append(all, api.Value{K: api.VInt, N: n})
	}
	for _, s := range texts() {
		all = append(all, api.Value{K: api.VText, S: s})
	}
	return all
}

func wrongValues() []api.Value {
	var all []api.Value
	for _, k := range []int{-1, -2, 4, 5, 6, 7, 127, 128, 255, 256, 257, 258, 259, -253, -254, -255, -256, 1 << 16, 1 << 32, 1<<32 + 1, 1<<32 + 2, 1<<32 + 3, math.MaxInt, math.MinInt} {
		all = append(all, api.Value{K: k}, api.Value{K: k, N: 1}, api.Value{K: k, S: "a"}, api.Value{K: k, N: -1, S: over})
	}
	for _, n := range numbers() {
		if n != 0 {
			all = append(all, api.Value{N: n}, api.Value{N: n, S: "a"}, api.Value{K: api.VText, N: n}, api.Value{K: api.VText, N: n, S: "a"}, api.Value{K: api.VText, N: n, S: full}, api.Value{K: api.VText, N: n, S: over})
		}
		if n != 0 && n != 1 {
			all = append(all, api.Value{K: api.VBool, N: n}, api.Value{K: api.VBool, N: n, S: "a"})
		}
	}
	for _, n := range []int64{257, -255, 1 << 8, 1<<8 + 1, 1 << 16, 1<<16 + 1, 1<<32 + 1} { // 0 and 1, if their low bytes were all that is looked at
		all = append(all, api.Value{K: api.VBool, N: n})
	}
	for _, s := range append(texts(), over, over+over) {
		if s == "" {
			continue
		}
		all = append(all, api.Value{S: s}, api.Value{K: api.VBool, S: s}, api.Value{K: api.VBool, N: 1, S: s})
		for _, n := range numbers() {
			all = append(all, api.Value{K: api.VInt, N: n, S: s})
		}
	}
	for _, s := range []string{over, over + "a", strings.Repeat("\u00e4", api.MaxText/2) + "a", strings.Repeat("\x00", api.MaxText+1), strings.Repeat("a", 2*api.MaxText), strings.Repeat("a", api.MaxWire), strings.Repeat("a", 1<<20)} {
		all = append(all, api.Value{K: api.VText, S: s})
	}
	return all
}

func isRight(v api.Value) bool {
	switch v.K {
	case api.VNull:
		return v.N == 0 && v.S == ""
	case api.VBool:
		return (v.N == 0 || v.N == 1) && v.S == ""
	case api.VInt:
		return v.S == ""
	case api.VText:
		return v.N == 0 && len(v.S) <= api.MaxText
	}
	return false
}

func said(v api.Value) string { return fmt.Sprintf("{%d %d %.40q of %d}", v.K, v.N, v.S, len(v.S)) }

// P6.1

func wantRight(t *testing.T, v api.Value, want bool) {
	t.Helper()
	if got := value.Right(v); got != want {
		t.Errorf("Right(%s): %t", said(v), got)
	}
}

func TestRight(t *testing.T) {
	for _, v := range rightValues() {
		wantRight(t, v, true)
	}
	for _, v := range wrongValues() {
		wantRight(t, v, false)
	}
}

func TestRightOfEachFewFields(t *testing.T) {
	for k := -3; k <= 300; k++ {
		for n := int64(-3); n <= 300; n++ {
			for _, s := range []string{"", "a", "\x00"} {
				v := api.Value{K: k, N: n, S: s}
				wantRight(t, v, isRight(v))
			}
		}
	}
	for n := range 2 * api.MaxText {
		s := strings.Repeat("\xc3", n)
		wantRight(t, api.Value{K: api.VText, S: s}, n <= api.MaxText)
		wantRight(t, api.Value{K: api.VInt, S: s}, n == 0)
	}
}

func wantMade(t *testing.T, what string, got api.Value, want api.Value) {
	t.Helper()
	if got != want {
		t.Errorf("%s: %s, not %s", what, said(got), said(want))
	}
	wantRight(t, got, true)
}

func TestMade(t *testing.T) {
	wantMade(t, "Null", value.Null(), api.Value{K: 0})
	wantMade(t, "Bool", value.Bool(false), api.Value{K: 1, N: 0})
	wantMade(t, "Bool", value.Bool(true), api.Value{K: 1, N: 1})
	for _, n := range numbers() {
		wantMade(t, fmt.Sprintf("Int(%d)", n), value.Int(n), api.Value{K: 2, N: n})
	}
	for _, s := range texts() {
		wantMade(t, fmt.Sprintf("Text(%.40q)", s), value.Text(s), api.Value{K: 3, S: s})
	}
}

func TestTextAtItsLimit(t *testing.T) {
	for _, part := range []string{"a", "'", "\x00", "\xff"} {
		for n := range 2*api.MaxText + 2 {
			s := strings.Repeat(part, n)
			want := api.Value{K: api.VText, S: s}
			if n > api.MaxText {
				want = api.Value{}
			}
			wantMade(t, fmt.Sprintf("Text of %d times %q", n, part), value.Text(s), want)
		}
	}
	wantMade(t, "Text of fewer runes, but more bytes", value.Text(strings.Repeat("\u00e4", api.MaxText/2+1)), api.Value{})
	wantMade(t, "Text of very many", value.Text(strings.Repeat("a", 1<<20)), api.Value{})
}

func wantOrder(t *testing.T, a, b api.Value, want int) {
	t.Helper()
	if got := value.Order(a, b); got != want {
		t.Errorf("Order(%s, %s): %d, not %d", said(a), said(b), got, want)
	}
}

// Each value of the row is ahead of all behind it.
func TestOrder(t *testing.T) {
	row := []api.Value{
		{K: math.MinInt, N: math.MaxInt64, S: "z"},
		{K: -1, S: "z"}, {K: -1, N: 1},
		{N: math.MinInt64, S: "z"}, {N: -1}, {N: -1, S: "a"},
		{}, {S: "\x00"}, {S: "a"}, {S: over}, {S: "b"},
		{N: 1}, {N: math.MaxInt64},
		{K: 1, N: math.MinInt64}, {K: 1, N: -1, S: "z"}, {K: 1}, {K: 1, S: "a"}, {K: 1, N: 1}, {K: 1, N: 1, S: "a"}, {K: 1, N: 2},
		{K: 2, N: math.MinInt64}, {K: 2, N: math.MinInt64, S: "a"}, {K: 2, N: math.MinInt64 + 1}, {K: 2, N: -10}, {K: 2, N: -9}, {K: 2, N: -1}, {K: 2}, {K: 2, S: "a"}, {K: 2, N: 1}, {K: 2, N: 9}, {K: 2, N: 10}, {K: 2, N: 100}, {K: 2, N: math.MaxInt64 - 1}, {K: 2, N: math.MaxInt64},
		{K: 3, N: math.MinInt64, S: "z"}, {K: 3, N: -1, S: "z"},
		{K: 3}, {K: 3, S: "\x00"}, {K: 3, S: "\x00\x00"}, {K: 3, S: "\x01"}, {K: 3, S: " "}, {K: 3, S: "10"}, {K: 3, S: "9"}, {K: 3, S: "A"}, {K: 3, S: "Z"}, {K: 3, S: "a"}, {K: 3, S: "a\x00"}, {K: 3, S: "a10"}, {K: 3, S: "a9"}, {K: 3, S: full}, {K: 3, S: over}, {K: 3, S: "ab"}, {K: 3, S: "b"}, {K: 3, S: "\x7f"}, {K: 3, S: "\x80"}, {K: 3, S: "\u00e4"}, {K: 3, S: "\uffff"}, {K: 3, S: "\U00010000"}, {K: 3, S: "\xff"},
		{K: 3, N: 1}, {K: 3, N: math.MaxInt64, S: "a"},
		{K: 4, N: math.MinInt64}, {K: 4}, {K: 4, S: "a"}, {K: 5}, {K: 256, N: -1}, {K: 1 << 32}, {K: math.MaxInt, N: math.MinInt64}, {K: math.MaxInt, N: math.MinInt64, S: "a"},
	}
	for i, a := range row {
		for j, b := range row {
			switch {
			case i < j:
				wantOrder(t, a, b, -1)
			case i > j:
				wantOrder(t, a, b, 1)
			default:
				wantOrder(t, a, b, 0)
			}
		}
	}
}

func TestOrderOfMade(t *testing.T) {
	wantOrder(t, value.Null(), value.Bool(false), -1)
	wantOrder(t, value.Bool(false), value.Bool(true), -1)
	wantOrder(t, value.Bool(true), value.Int(math.MinInt64), -1)
	wantOrder(t, value.Int(math.MaxInt64), value.Text(""), -1)
	wantOrder(t, value.Int(2), value.Int(1), 1)
	wantOrder(t, value.Text("a"), value.Text("a"), 0)
	wantOrder(t, value.Text("b"), value.Text("aa"), 1)
}

// ordered tells the order by other means: exact numbers, and bytes.
func ordered(a, b api.Value) int {
	if c := big.NewInt(int64(a.K)).Cmp(big.NewInt(int64(b.K))); c != 0 {
		return c
	}
	if c := big.NewInt(a.N).Cmp(big.NewInt(b.N)); c != 0 {
		return c
	}
	return bytes.Compare([]byte(a.S), []byte(b.S))
}

func TestOrderOfAll(t *testing.T) {
	all := append(rightValues(), wrongValues()...)
	all = slices.DeleteFunc(all, func(v api.Value) bool { return len(v.S) > 2*api.MaxText })
	for _, a := range all {
		for _, b := range all {
			if got := value.Order(a, b); got != ordered(a, b) {
				t.Fatalf("Order(%s, %s): %d", said(a), said(b), got)
			}
		}
	}
}

func wantFits(t *testing.T, v api.Value, k int, want bool) {
	t.Helper()
	if got := value.Fits(v, k); got != want {
		t.Errorf("Fits(%s, %d): %t", said(v), k, got)
	}
}

func TestFits(t *testing.T) {
	null, yes, no, n, s := value.Null(), value.Bool(true), value.Bool(false), value.Int(1), value.Text("a")
	for _, x := range []struct {
		v    api.Value
		fits []int
	}{
		{null, []int{api.VBool, api.VInt, api.VText}}, {yes, []int{api.VBool}}, {no, []int{api.VBool}}, {n, []int{api.VInt}}, {value.Int(0), []int{api.VInt}}, {s, []int{api.VText}}, {value.Text(""), []int{api.VText}}, {value.Text(over), []int{api.VBool, api.VInt, api.VText}},
	} {
		for _, k := range []int{math.MinInt, -1, api.VNull, api.VBool, api.VInt, api.VText, api.VText + 1, api.VText + 2, 255, 256, 257, 1<<32 + 1, math.MaxInt} {
			wantFits(t, x.v, k, slices.Contains(x.fits, k))
		}
	}
}

func TestFitsOfAll(t *testing.T) {
	for k := -2; k <= 6; k++ {
		kind := 1 <= k && k <= 3
		for _, v := range rightValues() {
			wantFits(t, v, k, kind && (v.K == 0 || v.K == k))
		}
		for _, v := range wrongValues() {
			wantFits(t, v, k, false)
		}
	}
	for _, v := range wrongValues() {
		wantFits(t, v, v.K, false)
	}
}

// P6.2

func wantPrint(t *testing.T, v api.Value, want string) {
	t.Helper()
	if got, e := value.Print(v); got != want || e != api.OK {
		t.Errorf("Print(%s): %.60s, %d, not %.60s", said(v), got, e, want)
	}
}

func TestPrint(t *testing.T) {
	for _, x := range []struct {
		v    api.Value
		want string
	}{
		{value.Text("a"), "'a'"}, {value.Null(), "NULL"}, {value.Bool(true), "TRUE"}, {value.Bool(false), "FALSE"},
		{value.Int(0), "0"}, {value.Int(1), "1"}, {value.Int(-1), "-1"}, {value.Int(-5), "-5"}, {value.Int(10), "10"}, {value.Int(-907), "-907"}, {value.Int(math.MaxInt64), "9223372036854775807"}, {value.Int(math.MaxInt64 - 1), "9223372036854775806"}, {value.Int(math.MinInt64), "-9223372036854775808"}, {value.Int(math.MinInt64 + 1), "-9223372036854775807"},
		{value.Text(""), "''"}, {value.Text("it's"), `'it\'s'`}, {value.Text("a'"), `'a\''`}, {value.Text("\\"), `'\\'`}, {value.Text("\\x41"), `'\\x41'`}, {value.Text("\n"), `'\x0a'`}, {value.Text("\x00\x1f \x7e\x7f\x80\xff"), `'\x00\x1f ~\x7f\x80\xff'`}, {value.Text("\u00e4"), `'\xc3\xa4'`}, {value.Text("\xc3a"), `'\xc3a'`},
		{value.Text("NULL"), "'NULL'"}, {value.Text("TRUE"), "'TRUE'"}, {value.Text("1"), "'1'"}, {value.Text("-0"), "'-0'"},
		{value.Text(full), "'" + full + "'"}, {value.Text(strings.Repeat("'", api.MaxText)), "'" + strings.Repeat(`\'`, api.MaxText) + "'"}, {value.Text(strings.Repeat("\xff", api.MaxText)), "'" + strings.Repeat(`\xff`, api.MaxText) + "'"},
		{value.Text(over), "NULL"},
	} {
		wantPrint(t, x.v, x.want)
	}
}

// printed writes by the chapters' words.
func printed(v api.Value) string {
	switch v.K {
	case api.VNull:
		return "NULL"
	case api.VBool:
		return strings.ToUpper(fmt.Sprint(v.N == 1))
	case api.VInt:
		return fmt.Sprint(v.N)
	}
	out := "'"
	for _, c := range []byte(v.S) {
		switch {
		case c == '\'' || c == '\\':
			out += "\\" + string(rune(c))
		case c < 0x20 || c > 0x7e:
			out += fmt.Sprintf("\\x%02x", c)
		default:
			out += string(rune(c))
		}
	}
	return out + "'"
}

func TestPrintOfAll(t *testing.T) {
	seen := map[string]api.Value{}
	for _, v := range rightValues() {
		wantPrint(t, v, printed(v))
		s, _ := value.Print(v)
		if other, ok := seen[s]; ok && other != v {
			t.Errorf("%s and %s are both printed as %.60s", said(v), said(other), s)
		}
		seen[s] = v
	}
	for c := range 256 {
		v := value.Text("a" + string([]byte{byte(c)}) + "f")
		wantPrint(t, v, printed(v))
	}
}

func TestPrintRefuses(t *testing.T) {
	for _, v := range wrongValues() {
		if s, e := value.Print(v); s != "" || e != api.ErrArg {
			t.Errorf("Print(%s): %.60s, %d", said(v), s, e)
		}
	}
}

// P6.3

func writer(t *testing.T, most int) *wire.Writer {
	t.Helper()
	w, e := wire.NewWriter(most)
	if e != api.OK {
		t.Fatalf("NewWriter(%d): %d", most, e)
	}
	return w
}

// put has the bytes of a right value by other means: first K, and then the rest of it, which is written all or not at all.
func put(v api.Value) (head, rest []byte) {
	head = []byte{byte(v.K)}
	switch v.K {
	case api.VBool:
		rest = []byte{byte(v.N)}
	case api.VInt:
		rest = binary.AppendVarint(nil, v.N)
	case api.VText:
		rest = append(binary.AppendUvarint(nil, uint64(len(v.S))), v.S...)
	}
	return head, rest
}

func putAll(v api.Value) []byte {
	head, rest := put(v)
	return append(head, rest...)
}

func wantPut(t *testing.T, v api.Value, want string) {
	t.Helper()
	w := writer(t, api.MaxWire)
	if e := value.Put(w, v); e != api.OK || string(w.Done()) != want {
		t.Errorf("Put(%s): %d, % x, not % x", said(v), e, w.Done(), want)
	}
}

func TestPut(t *testing.T) {
	for _, x := range []struct {
		v    api.Value
		want string
	}{
		{value.Null(), "\x00"}, {value.Bool(false), "\x01\x00"}, {value.Bool(true), "\x01\x01"},
		{value.Int(0), "\x02\x00"}, {value.Int(-1), "\x02\x01"}, {value.Int(1), "\x02\x02"}, {value.Int(-3), "\x02\x05"}, {value.Int(63), "\x02\x7e"}, {value.Int(-64), "\x02\x7f"}, {value.Int(64), "\x02\x80\x01"}, {value.Int(150), "\x02\xac\x02"},
		{value.Int(math.MaxInt64), "\x02\xfe\xff\xff\xff\xff\xff\xff\xff\xff\x01"}, {value.Int(math.MinInt64), "\x02\xff\xff\xff\xff\xff\xff\xff\xff\xff\x01"}, {value.Int(math.MaxInt64 - 1), "\x02\xfc\xff\xff\xff\xff\xff\xff\xff\xff\x01"}, {value.Int(math.MinInt64 + 1), "\x02\xfd\xff\xff\xff\xff\xff\xff\xff\xff\x01"},
		{value.Text(""), "\x03\x00"}, {value.Text("ab"), "\x03\x02ab"}, {value.Text("it's\\"), "\x03\x05it's\\"}, {value.Text("\xff\x00\xc3"), "\x03\x03\xff\x00\xc3"}, {value.Text(full[:127]), "\x03\x7f" + full[:127]}, {value.Text(full[:128]), "\x03\x80\x01" + full[:128]}, {value.Text(full), "\x03\x80\x02" + full},
	} {
		wantPut(t, x.v, x.want)
	}
	for _, v := range rightValues() {
		wantPut(t, v, string(putAll(v)))
	}
}

func TestPutBehindOthers(t *testing.T) {
	w := writer(t, api.MaxWire)
	want := []byte{7}
	if e := w.Byte(7); e != api.OK {
		t.Fatal(e)
	}
	for _, v := range rightValues() {
		want = append(want, putAll(v)...)
		if e := value.Put(w, v); e != api.OK || !bytes.Equal(w.Done(), want) {
			t.Fatalf("Put(%s): %d", said(v), e)
		}
	}
}

func TestPutRefuses(t *testing.T) {
	w := writer(t, api.MaxWire)
	if e := value.Put(w, value.Bool(true)); e != api.OK {
		t.Fatal(e)
	}
	for _, v := range wrongValues() {
		if e := value.Put(w, v); e != api.ErrArg || string(w.Done()) != "\x01\x01" {
			t.Fatalf("Put(%s): %d, % x", said(v), e, w.Done())
		}
		for _, no := range []*wire.Writer{nil, {}, writer(t, 0)} { // a value that is not right is told ahead of what is wrong with the Writer
			if e := value.Put(no, v); e != api.ErrArg || len(no.Done()) != 0 {
				t.Fatalf("Put(%s) without room: %d", said(v), e)
			}
		}
	}
	if e := value.Put(w, value.Bool(false)); e != api.OK || string(w.Done()) != "\x01\x01\x01\x00" {
		t.Errorf("Put behind what was refused: %d, % x", e, w.Done())
	}
}

// Each room that is too small, from none on: what was written ahead of the error stays, and no more.
func TestPutWithoutRoom(t *testing.T) {
	for _, v := range rightValues() {
		head, rest := put(v)
		need := len(head) + len(rest)
		for room := range need + 2 {
			w := writer(t, 3+room)
			w.Text("zz")
			e := value.Put(w, v)
			got := w.Done()[3:]
			switch {
			case room < 1 && (e != api.ErrLong || len(got) != 0):
				t.Fatalf("Put(%s) without room: %d, % x", said(v), e, got)
			case 1 <= room && room < need && (e != api.ErrLong || !bytes.Equal(got, head)):
				t.Fatalf("Put(%s) into %d bytes: %d, % x", said(v), room, e, got)
			case room >= need && (e != api.OK || !bytes.Equal(got, putAll(v))):
				t.Fatalf("Put(%s) into %d bytes: %d, % x", said(v), room, e, got)
			}
		}
	}
}

func TestPutInASmallRest(t *testing.T) {
	w := writer(t, 4)
	for _, x := range []struct {
		v    api.Value
		e    api.Errno
		want string
	}{
		{value.Text("abc"), api.ErrLong, "\x03"}, {value.Int(1 << 20), api.ErrLong, "\x03\x02"}, {value.Int(0), api.OK, "\x03\x02\x02\x00"}, {value.Null(), api.ErrLong, "\x03\x02\x02\x00"}, {value.Bool(true), api.ErrLong, "\x03\x02\x02\x00"},
	} {
		if e := value.Put(w, x.v); e != x.e || string(w.Done()) != x.want {
			t.Errorf("Put(%s): %d, % x, not %d, % x", said(x.v), e, w.Done(), x.e, x.want)
		}
	}
}

func TestPutToNoWriter(t *testing.T) {
	for _, w := range []*wire.Writer{nil, {}} {
		for _, v := range rightValues() {
			if e := value.Put(w, v); e != api.ErrZero || len(w.Done()) != 0 {
				t.Errorf("Put(%s): %d", said(v), e)
			}
		}
	}
}

// got is what Get answers, and how many bytes are taken behind it.
type got struct {
	v  api.Value
	e  api.Errno
	at int
}

func (g got) String() string { return fmt.Sprintf("%s, %d, at %d", said(g.v), g.e, g.at) }

func get(r *wire.Reader) got {
	v, e := value.Get(r)
	return got{v, e, r.At()}
}

func wantGet(t *testing.T, b string, want got) {
	t.Helper()
	if have := get(wire.NewReader([]byte(b))); have != want {
		t.Errorf("Get(% .20x of %d): %v, not %v", b, len(b), have, want)
	}
}

func wantNone(t *testing.T, b string, e api.Errno, at int) {
	t.Helper()
	wantGet(t, b, got{api.Value{}, e, at})
}

func TestGet(t *testing.T) {
	for _, v := range rightValues() {
		b := putAll(v)
		for _, behind := range []string{"", "\x00", "\x01", "\xff", "\x03\x02ab"} {
			wantGet(t, string(b)+behind, got{v, api.OK, len(b)})
		}
	}
	wantGet(t, "\x02\x05", got{value.Int(-3), api.OK, 2})
	wantGet(t, "\x03\x02ab", got{value.Text("ab"), api.OK, 4})
	wantGet(t, "\x03\x80\x02"+full, got{value.Text(full), api.OK, 3 + api.MaxText})
}

func TestGetRefuses(t *testing.T) {
	const most = "\x02\xff\xff\xff\xff\xff\xff\xff\xff\xff"
	for _, x := range []struct {
		b  string
		e  api.Errno
		at int
	}{
		// the bytes end ahead of the value, or within it
		{"", api.ErrShort, 0}, {"\x01", api.ErrShort, 1}, {"\x02", api.ErrShort, 1}, {"\x02\x80", api.ErrShort, 1}, {"\x02\xff\xff", api.ErrShort, 1}, {most, api.ErrShort, 1}, {"\x03", api.ErrShort, 1}, {"\x03\x80", api.ErrShort, 1}, {"\x03\x01", api.ErrShort, 1}, {"\x03\x02a", api.ErrShort, 1}, {"\x03\x80\x02" + full[1:], api.ErrShort, 1},

		// a K that is none
		{"\x04", api.ErrForm, 1}, {"\x05\x00", api.ErrForm, 1}, {"\x7f\x01", api.ErrForm, 1}, {"\x80\x01", api.ErrForm, 1}, {"\x81\x00\x01", api.ErrForm, 1}, {"\xff", api.ErrForm, 1},

		// a bool's byte that is none
		{"\x01\x02", api.ErrForm, 2}, {"\x01\x03\x01", api.ErrForm, 2}, {"\x01\x7f", api.ErrForm, 2}, {"\x01\x80\x00", api.ErrForm, 2}, {"\x01\x81", api.ErrForm, 2}, {"\x01\xff", api.ErrForm, 2},

		// a number that has fewer bytes, or is beyond
		{"\x02\x80\x00", api.ErrForm, 1}, {"\x02\xff\x00", api.ErrForm, 1}, {most + "\x02", api.ErrForm, 1}, {most + "\x80\x01", api.ErrForm, 1},

		// a text that is too long, or whose length can't be
		{"\x03\x81\x02" + over, api.ErrForm, 1}, {"\x03\x80\x04" + full + full, api.ErrForm, 1}, {"\x03\x80\x00", api.ErrForm, 1}, {"\x03\x82\x00ab", api.ErrForm, 1}, {"\x03" + most[1:] + "\x02", api.ErrForm, 1}, {"\x03" + most[1:] + "\x01", api.ErrShort, 1}, {"\x03\x81\x02" + full, api.ErrShort, 1},
	} {
		wantNone(t, x.b, x.e, x.at)
	}
}

func TestGetOfEachFirstByte(t *testing.T) {
	for k := range 256 {
		for c := range 256 {
			b := string([]byte{byte(k), byte(c)})
			switch {
			case k == api.VNull:
				wantGet(t, b, got{value.Null(), api.OK, 1})
			case k == api.VBool && c < 2:
				wantGet(t, b, got{value.Bool(c == 1), api.OK, 2})
			case k == api.VBool:
				wantNone(t, b, api.ErrForm, 2)
			case k > api.VText:
				wantNone(t, b, api.ErrForm, 1)
			}
		}
	}
}

func TestGetOfEachBeginning(t *testing.T) {
	for _, v := range rightValues() {
		b := string(putAll(v))
		for i := range len(b) {
			wantNone(t, b[:i], api.ErrShort, min(i, 1))
		}
	}
}

func TestGetOneBehindTheOther(t *testing.T) {
	var b []byte
	for _, v := range rightValues() {
		b = append(b, putAll(v)...)
	}
	r := wire.NewReader(b)
	at := 0
	for _, v := range rightValues() {
		at += len(putAll(v))
		if have := get(r); have != (got{v, api.OK, at}) {
			t.Fatalf("Get: %v, not %s, at %d", have, said(v), at)
		}
	}
	if e := r.End(); e != api.OK {
		t.Errorf("End: %d", e)
	}
	if have := get(r); have != (got{api.Value{}, api.ErrShort, len(b)}) {
		t.Errorf("Get at the end: %v", have)
	}
}

// What was taken ahead of an error stays taken: the next call goes on behind it.
func TestGetBehindAnError(t *testing.T) {
	r := wire.NewReader([]byte("\x09\x01\x02\x03\x81\x00\x02\x06\x02"))
	for i, want := range []got{
		{api.Value{}, api.ErrForm, 1}, {api.Value{}, api.ErrForm, 3}, {api.Value{}, api.ErrForm, 4}, {api.Value{}, api.ErrForm, 5}, {api.Value{}, api.OK, 6}, {value.Int(3), api.OK, 8}, {api.Value{}, api.ErrShort, 9}, {api.Value{}, api.ErrShort, 9},
	} {
		if have := get(r); have != want {
			t.Errorf("Get %d: %v, not %v", i, have, want)
		}
	}
}

func TestGetFromNoReader(t *testing.T) {
	for _, r := range []*wire.Reader{nil, {}} {
		if have := get(r); have != (got{api.Value{}, api.ErrZero, 0}) {
			t.Errorf("Get: %v", have)
		}
	}
	for _, b := range [][]byte{nil, {}} {
		if have := get(wire.NewReader(b)); have != (got{api.Value{}, api.ErrShort, 0}) {
			t.Errorf("Get of no bytes: %v", have)
		}
	}
}

// P6.4

func someText(by *rand.Rand, most int) string {
	const often = "'\\x\x00\x7f\x80\xff\xc3\xa4ab 1"
	b := make([]byte, by.Intn(most+1))
	for i := range b {
		b[i] = often[by.Intn(len(often))]
	}
	return string(b)
}

func someRight(by *rand.Rand) api.Value {
	switch by.Intn(5) {
	case 0:
		return value.Null()
	case 1:
		return value.Bool(by.Intn(2) == 1)
	case 2:
		return value.Int(int64(by.Uint64()) >> by.Intn(64))
	case 3:
		return value.Text(someText(by, api.MaxText))
	}
	return value.Text(someText(by, 3))
}

func wantUndone(t *testing.T, l []api.Value) {
	t.Helper()
	w := writer(t, api.MaxWire)
	for _, v := range l {
		if e := value.Put(w, v); e != api.OK {
			t.Fatalf("Put(%s): %d", said(v), e)
		}
	}
	r := wire.NewReader(w.Done())
	for _, v := range l {
		if back, e := value.Get(r); back != v || e != api.OK {
			t.Fatalf("Get: %s, %d, not %s", said(back), e, said(v))
		}
	}
	if e := r.End(); e != api.OK {
		t.Fatalf("End: %d", e)
	}
}

func TestGetUndoesPut(t *testing.T) {
	wantUndone(t, rightValues())
	by := rand.New(rand.NewSource(1))
	for range 5000 {
		l := make([]api.Value, by.Intn(8))
		for i := range l {
			l[i] = someRight(by)
		}
		wantUndone(t, l)
	}
}

// wantSame: what is got is right, and put just as it was; what is not got is a zero value.
func wantSame(t *testing.T, b []byte) {
	t.Helper()
	r := wire.NewReader(b)
	have := get(r)
	if have.e != api.OK {
		if have.v != (api.Value{}) || !slices.Contains([]api.Errno{api.ErrShort, api.ErrForm}, have.e) || have.at > min(len(b), 2) {
			t.Errorf("Get(% .20x): %v", b, have)
		}
		return
	}
	wantRight(t, have.v, true)
	w := writer(t, have.at)
	if e := value.Put(w, have.v); e != api.OK || !bytes.Equal(w.Done(), b[:have.at]) {
		t.Errorf("Get(% .20x): %v, which is put as % .20x, %d", b, have, w.Done(), e)
	}
}

func TestWhatIsGotIsPut(t *testing.T) {
	for a := range 6 {
		for b := range 256 {
			for c := range 256 {
				wantSame(t, []byte{byte(a), byte(b), byte(c)})
			}
		}
	}
	by := rand.New(rand.NewSource(2))
	for range 50000 {
		b := putAll(someRight(by))
		wantSame(t, append(b, someText(by, 2)...))
		b[by.Intn(len(b))] ^= 1 << by.Intn(8)
		wantSame(t, b)
		wantSame(t, b[:by.Intn(len(b)+1)])
	}
}

// someValue is right or not, with few fields that differ, so that many have some in common.
func someValue(by *rand.Rand) api.Value {
	few := []int64{math.MinInt64, -1, 0, 1, 2, math.MaxInt64}
	return api.Value{K: by.Intn(7) - 1, N: few[by.Intn(len(few))], S: someText(by, 2)}
}

func TestOrderIsAnOrder(t *testing.T) {
	by := rand.New(rand.NewSource(3))
	for range 200000 {
		a, b, c := someValue(by), someValue(by), someValue(by)
		ab, ba := value.Order(a, b), value.Order(b, a)
		if ab != -ba || (ab == 0) != (a == b) || value.Order(a, a) != 0 || ab != ordered(a, b) {
			t.Fatalf("%s and %s: %d, %d", said(a), said(b), ab, ba)
		}
		if ab <= 0 && value.Order(b, c) <= 0 && value.Order(a, c) > 0 {
			t.Fatalf("%s, %s, %s", said(a), said(b), said(c))
		}
	}
}

func TestSortedByOrder(t *testing.T) {
	by := rand.New(rand.NewSource(4))
	all := append(rightValues(), wrongValues()...)
	want := slices.SortedFunc(slices.Values(all), ordered)
	for range 20 {
		by.Shuffle(len(all), func(i, j int) { all[i], all[j] = all[j], all[i] })
		if got := slices.SortedFunc(slices.Values(all), value.Order); !slices.Equal(got, want) {
			t.Fatal("sorted otherwise")
		}
	}
}

func FuzzGet(f *testing.F) {
	for _, v := range rightValues() {
		f.Add(putAll(v))
	}
	f.Add([]byte{4})
	f.Add([]byte{1, 2})
	f.Add([]byte("\x03\x81\x02" + over))
	f.Fuzz(wantSame)
}

func FuzzValue(f *testing.F) {
	for _, v := range append(rightValues(), wrongValues()[:40]...) {
		f.Add(v.K, v.N, v.S)
	}
	f.Fuzz(func(t *testing.T, k int, n int64, s string) {
		v := api.Value{K: k, N: n, S: s}
		wantRight(t, v, isRight(v))
		for kind := range 6 {
			wantFits(t, v, kind, isRight(v) && 1 <= kind && kind <= 3 && (k == 0 || k == kind))
		}
		if !isRight(v) {
			if got, e := value.Print(v); got != "" || e != api.ErrArg {
				t.Errorf("Print(%s): %.60s, %d", said(v), got, e)
			}
			return
		}
		wantPrint(t, v, printed(v))
		wantPut(t, v, string(putAll(v)))
		wantUndone(t, []api.Value{v, v})
	})
}
