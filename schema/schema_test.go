package schema_test

import (
	"bytes"
	"encoding/binary"
	"fmt"
	"math"
	"math/rand"
	"regexp"
	"slices"
	"strings"
	"testing"

	"haruspex/api"
	"haruspex/schema"
	"haruspex/wire"
)

var (
	full = strings.Repeat("n", api.MaxName)
	over = strings.Repeat("n", api.MaxName+1)
)

var noNames = []string{"", "A", "aB", "B", "1", "1a", "_", "_a", " ", " a", "a ", "a b", "a-b", "a.b", "a\x00", "\x00", "\x7f", "\xff", "a\xff", "\u00e4", "a\u00e4", "'a'", "a\n", over, over + over, strings.Repeat("n", 1<<16)}

func field(name string, k int) api.Field { return api.Field{Name: name, K: k} }

func made(name string, l ...api.Field) api.Schema { return api.Schema{Name: name, Fields: l} }

// many has n fields, f0 and on, whose kinds take turns.
func many(n int) []api.Field {
	var l []api.Field
	for i := range n {
		l = append(l, field(fmt.Sprintf("f%d", i), i%3+1))
	}
	return l
}

// wide has n fields with names that are as long as may be.
func wide(n int) []api.Field {
	l := many(n)
	for i := range l {
		l[i].Name += strings.Repeat("_", api.MaxName-len(l[i].Name))
	}
	return l
}

func book(n int) []api.Schema {
	var l []api.Schema
	for i := range n {
		l = append(l, made(fmt.Sprintf("s%d", i), many(i%(api.MaxFields+1))...))
	}
	return l
}

func rightSchemas() []api.Schema {
	all := []api.Schema{
		made("buy", field("x", api.VInt), field("k", api.VText)),
		made("a"), made("z9_"), {Name: "a", Fields: []api.Field{}}, made(full), made(full[1:]),
		made("a", field("a", api.VBool)), made("a", field("a", api.VInt)), made("a", field("a", api.VText)), // a field may be named as its schema is
		made("a", field("b", api.VText), field("c", api.VBool)), made("a", field("c", api.VText), field("b", api.VBool)),
		made("a", field(full, api.VInt)), made("a", field(full, api.VInt), field(full[1:], api.VInt)), made(full, field(full, api.VInt)),
		made("a", field("b", api.VBool), field("b_", api.VBool), field("b1", api.VBool), field("ab", api.VBool), field("ba", api.VBool)),
		made("null", field("true", api.VBool), field("seq", api.VInt)),
	}
	for n := range api.MaxFields + 1 {
		all = append(all, made("many", many(n)...), made(full, wide(n)...))
	}
	return all
}

// longSchemas have too many fields; some have more wrong with them, which is not told.
func longSchemas() []api.Schema {
	long := many(api.MaxFields + 1)
	all := []api.Schema{made("a", long...), made(full, wide(api.MaxFields+1)...), made("a", many(2*api.MaxFields)...), made("a", many(1<<10)...), made("a", make([]api.Field, api.MaxFields+1)...), {Fields: make([]api.Field, api.MaxFields+1)}}
	for _, name := range noNames {
		all = append(all, made(name, long...))
		for _, i := range []int{0, api.MaxFields - 1, api.MaxFields} {
			all = append(all, made("a", with(long, i, field(name, api.VInt))...))
		}
	}
	for _, i := range []int{0, 1, api.MaxFields} {
		all = append(all, made("a", with(long, i, field("x", api.VNull))...), made("a", with(long, i, field("x", api.VText+1))...), made("a", with(long, i, long[(i+1)%len(long)])...))
	}
	return all
}

func with(l []api.Field, i int, f api.Field) []api.Field {
	l = slices.Clone(l)
	l[i] = f
	return l
}

func noKinds() []int {
	return []int{api.VNull, -1, -2, -3, 4, 5, 127, 128, 255, 256, 257, 258, 259, -253, -254, -255, 1 << 16, 1<<16 + 1, 1 << 32, 1<<32 + 1, 1<<32 + 2, 1<<32 + 3, math.MaxInt, math.MinInt, math.MinInt + 1}
}

// wrongSchemas have few enough fields, and something else wrong with them.
func wrongSchemas() []api.Schema {
	all := []api.Schema{{}, made("a", field("x", api.VInt), field("x", api.VInt)), made("a", field("x", api.VInt), field("x", api.VText)), made("a", field("", 0)), made("A", field("X", 0), field("X", 0))}
	most := many(api.MaxFields)
	for _, name := range noNames {
		all = append(all, made(name), made(name, field("x", api.VInt)), made(name, most...), made("a", field(name, api.VInt)))
		for i := range most {
			all = append(all, made("a", with(most, i, field(name, api.VInt))...))
		}
	}
	for _, k := range noKinds() {
		all = append(all, made("a", field("x", k)))
		for i := range most {
			all = append(all, made("a", with(most, i, field("x", k))...))
		}
	}
	for i := range most {
		for j := range most {
			if i != j {
				all = append(all, made("a", with(most, i, field(most[j].Name, api.VBool))...), made("a", with(wide(api.MaxFields), i, wide(api.MaxFields)[j])...))
			}
		}
	}
	return all
}

var names = regexp.MustCompile(`^[a-z][a-z0-9_]{0,31}\z`)

// refused tells Check's error by the chapter's words.
func refused(s api.Schema) api.Errno {
	if len(s.Fields) > 16 {
		return 2
	}
	if !names.MatchString(s.Name) {
		return 1
	}
	for i, f := range s.Fields {
		if !names.MatchString(f.Name) || f.K != 1 && f.K != 2 && f.K != 3 {
			return 1
		}
		for _, g := range s.Fields[:i] {
			if f.Name == g.Name {
				return 1
			}
		}
	}
	return 0
}

func said(s api.Schema) string {
	out := fmt.Sprintf("%.40q of %d:", s.Name, len(s.Fields))
	for i, f := range s.Fields {
		if i == 20 {
			return out + " .."
		}
		out += fmt.Sprintf(" %.40q %d", f.Name, f.K)
	}
	return out
}

func copied(s api.Schema) api.Schema {
	return api.Schema{Name: s.Name, Fields: slices.Clone(s.Fields)}
}

func equal(a, b api.Schema) bool { return a.Name == b.Name && slices.Equal(a.Fields, b.Fields) }

// P7.1

func wantCheck(t *testing.T, s api.Schema, want api.Errno) {
	t.Helper()
	before := copied(s)
	if e := schema.Check(s); e != want {
		t.Errorf("Check(%s): %d, not %d", said(s), e, want)
	}
	if !equal(s, before) {
		t.Errorf("Check(%s) changed it", said(before))
	}
}

func TestCheck(t *testing.T) {
	for _, s := range rightSchemas() {
		wantCheck(t, s, api.OK)
	}
	for _, s := range wrongSchemas() {
		wantCheck(t, s, api.ErrArg)
	}
	for _, s := range longSchemas() {
		wantCheck(t, s, api.ErrLong)
	}
}

func TestCheckOfEachKind(t *testing.T) {
	for k := -300; k <= 600; k++ {
		want := api.ErrArg
		if k == api.VBool || k == api.VInt || k == api.VText {
			want = api.OK
		}
		wantCheck(t, made("a", field("x", k)), want)
		wantCheck(t, made("a", field("x", api.VInt), field("y", k)), want)
	}
}

func TestCheckOfEachCount(t *testing.T) {
	for n := range 4 * api.MaxFields {
		want := api.OK
		if n > api.MaxFields {
			want = api.ErrLong
		}
		wantCheck(t, made("a", many(n)...), want)
		wantCheck(t, made("a", wide(n)...), want)
	}
}

func TestCheckOfEachName(t *testing.T) {
	var all []string
	for c := range 256 {
		all = append(all, string([]byte{byte(c)}), string([]byte{'a', byte(c)}), string([]byte{byte(c), 'a'}))
	}
	for n := range 3 * api.MaxName {
		all = append(all, strings.Repeat("q", n))
	}
	for _, name := range all {
		want := api.ErrArg
		if names.MatchString(name) {
			want = api.OK
		}
		wantCheck(t, made(name), want)
		wantCheck(t, made("a", field(name, api.VInt)), want)
		wantCheck(t, made("a", field("zzz", api.VInt), field(name, api.VInt)), want)
	}
}

// fewSchemas are all with up to three fields of few names and kinds, right or not.
func fewSchemas() []api.Schema {
	var fields []api.Field
	for _, name := range []string{"a", "b", "B"} {
		for k := range 5 {
			fields = append(fields, field(name, k))
		}
	}
	all := []api.Schema{{}, made("a"), made("B")}
	for _, f := range fields {
		all = append(all, made("a", f), made("b", f), made("", f))
		for _, g := range fields {
			all = append(all, made("a", f, g))
			for _, h := range fields {
				all = append(all, made("a", f, g, h))
			}
		}
	}
	return all
}

func TestCheckOfFew(t *testing.T) {
	for _, s := range fewSchemas() {
		wantCheck(t, s, refused(s))
	}
}

func wantBook(t *testing.T, l []api.Schema, want api.Errno) {
	t.Helper()
	if e := schema.Book(l); e != want {
		t.Errorf("Book of %d: %d, not %d", len(l), e, want)
	}
}

func TestBookOfEachCount(t *testing.T) {
	wantBook(t, nil, api.OK)
	wantBook(t, []api.Schema{}, api.OK)
	for n := range 4 * api.MaxSchemas {
		want := api.OK
		if n > api.MaxSchemas {
			want = api.ErrLong
		}
		wantBook(t, book(n), want)
	}
}

func TestBookOfOne(t *testing.T) {
	for _, s := range rightSchemas() {
		wantBook(t, []api.Schema{s}, api.OK)
	}
	for _, s := range wrongSchemas() {
		wantBook(t, []api.Schema{s}, api.ErrArg)
	}
	for _, s := range longSchemas() {
		wantBook(t, []api.Schema{s}, api.ErrLong)
	}
}

// More than MaxSchemas are told ahead of whatever is wrong with them.
func TestBookTooLong(t *testing.T) {
	n := api.MaxSchemas + 1
	wantBook(t, make([]api.Schema, n), api.ErrLong)
	for i := range n {
		l := book(n)
		l[i] = made("A")
		wantBook(t, l, api.ErrLong)
		l[i] = l[(i+1)%n]
		wantBook(t, l, api.ErrLong)
	}
	wantBook(t, slices.Repeat(book(1), n), api.ErrLong)
	wantBook(t, slices.Repeat(book(2), 1<<12), api.ErrLong)
}

// The first that is not right tells the error, wherever it is, also behind two that have one name.
func TestBookOfSomeNotRight(t *testing.T) {
	arg, long := made("A"), made("a", many(api.MaxFields+1)...)
	for i := range api.MaxSchemas {
		l := book(api.MaxSchemas)
		l[i] = arg
		wantBook(t, l, api.ErrArg)
		l[i] = long
		wantBook(t, l, api.ErrLong)
		for j := i + 1; j < len(l); j++ {
			l = book(api.MaxSchemas)
			l[i], l[j] = arg, long
			wantBook(t, l, api.ErrArg)
			l[i], l[j] = long, arg
			wantBook(t, l, api.ErrLong)
		}
	}
	one := made("a")
	for _, l := range [][]api.Schema{{one, one, arg}, {arg, one, one}, {one, arg, one}, {arg, arg}, {one, made("a", field("X", 1))}, {made("a", field("x", 0)), one}, {{}, {}}} {
		wantBook(t, l, api.ErrArg)
	}
	for _, l := range [][]api.Schema{{one, one, long}, {long, one, one}, {one, long}, {long, one}, {long, long}, {long, arg, arg}} {
		wantBook(t, l, api.ErrLong)
	}
}

func TestBookOfOneNameTwice(t *testing.T) {
	for i := range api.MaxSchemas {
		for j := range api.MaxSchemas {
			if i == j {
				continue
			}
			l := book(api.MaxSchemas)
			l[i] = l[j]
			wantBook(t, l, api.ErrForm)
			l[i] = made(l[j].Name, field("other", api.VText)) // the names alone count
			wantBook(t, l, api.ErrForm)
		}
	}
	wantBook(t, slices.Repeat(book(1), api.MaxSchemas), api.ErrForm)
	one, inner := book(2), made("s1", field("x", api.VInt), field("x", api.VInt))
	for _, x := range []struct {
		what string
		l    []api.Schema
		want api.Errno
	}{
		{"long names", []api.Schema{made(full), made(full)}, api.ErrForm},
		{"beginnings of one another", []api.Schema{made(full), made(full[1:]), made("n"), made("n1"), made("n_")}, api.OK},
		{"nil and empty fields", []api.Schema{made("a"), {Name: "a", Fields: []api.Field{}}}, api.ErrForm},
		{"not side by side", []api.Schema{made("b"), made("a"), made("c"), made("b")}, api.ErrForm},
		{"fields of one name in two", []api.Schema{made("a", many(3)...), made("b", many(3)...)}, api.OK},
		{"fields named as schemas", []api.Schema{made("a", field("b", api.VBool)), made("b", field("a", api.VBool))}, api.OK},
		{"the last named as the first", append(book(api.MaxSchemas-1), one[0]), api.ErrForm},
		{"too many, one name twice", append(book(api.MaxSchemas), one[0]), api.ErrLong},
		{"a name that is none", append(book(2), made("S0")), api.ErrArg},
		{"one name twice, none between", append(append(book(2), api.Schema{}), one...), api.ErrArg},
		{"one name twice, too many fields between", append(append(book(2), made("a", many(api.MaxFields+1)...)), one...), api.ErrLong},
		{"one name twice, and fields with one name behind", append(book(2), inner), api.ErrArg},
		{"one name twice, and fields with one name ahead", append([]api.Schema{inner}, one...), api.ErrArg},
	} {
		if e := schema.Book(x.l); e != x.want {
			t.Errorf("Book of %s: %d, not %d", x.what, e, x.want)
		}
	}
}

func wantFind(t *testing.T, l []api.Schema, name string, at int, ok bool) {
	t.Helper()
	if i, found := schema.Find(l, name); i != at || found != ok {
		t.Errorf("Find of %.40q among %d: %d, %t, not %d, %t", name, len(l), i, found, at, ok)
	}
}

func TestFind(t *testing.T) {
	wantFind(t, []api.Schema{made("a"), made("buy", field("x", 2))}, "buy", 1, true)
	for n := range 2 * api.MaxSchemas { // also of more than a book may have
		l := book(n)
		for i, s := range l {
			wantFind(t, l, s.Name, i, true)
			wantFind(t, append(slices.Clone(l), l...), s.Name, i, true)
		}
		for _, name := range []string{"", "s", "S0", "s0 ", "s00", "f0", "x", fmt.Sprint("s", n), full, over} {
			wantFind(t, l, name, 0, false)
		}
	}
	wantFind(t, nil, "", 0, false)
	wantFind(t, nil, "a", 0, false)
	wantFind(t, []api.Schema{}, "a", 0, false)
	wantFind(t, []api.Schema{made("a", field("b", 1))}, "b", 0, false) // a field's name is none
}

func TestFindTheFirst(t *testing.T) {
	l := []api.Schema{made("x"), made("a", field("b", 1)), made("a"), made("b"), made("a"), made("b"), made("x")}
	wantFind(t, l, "x", 0, true)
	wantFind(t, l, "a", 1, true)
	wantFind(t, l, "b", 3, true)
	wantFind(t, l[2:], "a", 0, true)
}

// Find asks for names alone: whether the schemas are right is not asked.
func TestFindAmongNotRight(t *testing.T) {
	var l []api.Schema
	for i, name := range noNames {
		l = append(l, made(name))
		wantFind(t, l, name, i, true)
	}
	wantFind(t, make([]api.Schema, 40), "", 0, true)
	wantFind(t, []api.Schema{made("a"), {}}, "", 1, true)
	wantFind(t, append(longSchemas(), made("last")), "last", len(longSchemas()), true)
	wantFind(t, append(wrongSchemas(), made("last")), "last", len(wrongSchemas()), true)
}

func wantField(t *testing.T, s api.Schema, name string, at int, k int, ok bool) {
	t.Helper()
	if i, kind, found := schema.Field(s, name); i != at || kind != k || found != ok {
		t.Errorf("Field(%s, %.40q): %d, %d, %t, not %d, %d, %t", said(s), name, i, kind, found, at, k, ok)
	}
}

func TestField(t *testing.T) {
	buy := made("buy", field("x", api.VInt), field("k", api.VText))
	wantField(t, buy, "x", 0, api.VInt, true)
	wantField(t, buy, "k", 1, api.VText, true) // the document's example
	wantField(t, made("buy", field("x", api.VInt), field("k", api.VBool)), "k", 1, api.VBool, true)
	wantField(t, buy, "buy", 0, 0, false)
	for _, s := range rightSchemas() {
		for i, f := range s.Fields {
			wantField(t, s, f.Name, i, f.K, true)
		}
		for _, name := range []string{"", "X", "f", "f00", "f99", "K", "xk", s.Name + s.Name + "_", over} {
			wantField(t, s, name, 0, 0, false)
		}
	}
	for _, s := range []api.Schema{{}, made("a"), {Name: "a", Fields: []api.Field{}}} {
		for _, name := range []string{"", "a", "x"} {
			wantField(t, s, name, 0, 0, false)
		}
	}
}

// Field finds the first with that name in what is not right, too, and tells its kind as it stands there.
func TestFieldOfNotRight(t *testing.T) {
	twins := made("a", field("y", 1), field("x", 3), field("x", 1), field("x", 2), field("y", 2))
	wantField(t, twins, "x", 1, 3, true)
	wantField(t, twins, "y", 0, 1, true)
	for _, s := range append(wrongSchemas(), longSchemas()...) {
		for i, f := range s.Fields {
			if first := slices.IndexFunc(s.Fields, func(g api.Field) bool { return g.Name == f.Name }); first == i {
				wantField(t, s, f.Name, i, f.K, true)
			}
		}
		wantField(t, s, "nowhere", 0, 0, false)
	}
	wantField(t, made("", field("", -7)), "", 0, -7, true)
	wantField(t, made("", field("a", math.MaxInt)), "a", 0, math.MaxInt, true)
}

func wantSame(t *testing.T, a, b api.Schema, want bool) {
	t.Helper()
	for range 2 {
		if got := schema.Same(a, b); got != want {
			t.Errorf("Same(%s, %s): %t", said(a), said(b), got)
		}
		a, b = b, a
	}
}

func TestSame(t *testing.T) {
	for _, s := range rightSchemas() {
		wantSame(t, s, s, true)
		wantSame(t, s, copied(s), true)
		for _, name := range []string{"", "A", s.Name + "_", s.Name[1:], strings.ToUpper(s.Name)} {
			wantSame(t, s, made(name, s.Fields...), false)
		}
		wantSame(t, s, made(s.Name, append(slices.Clone(s.Fields), field("more", api.VInt))...), false)
		wantSame(t, s, made(s.Name, append(slices.Clone(s.Fields), api.Field{})...), false)
		for i, f := range s.Fields {
			wantSame(t, s, made(s.Name, s.Fields[:i]...), false)
			wantSame(t, s, made(s.Name, with(s.Fields, i, field("other", f.K))...), false)
			wantSame(t, s, made(s.Name, with(s.Fields, i, field(f.Name, f.K%3+1))...), false)
			wantSame(t, s, made(s.Name, with(s.Fields, i, field(f.Name, f.K+256))...), false)
			if i > 0 {
				turned := with(s.Fields, i, s.Fields[i-1])
				turned[i-1] = f
				wantSame(t, s, made(s.Name, turned...), false)
			}
		}
	}
}

func TestSameOfNoFields(t *testing.T) {
	wantSame(t, api.Schema{}, api.Schema{}, true)
	wantSame(t, api.Schema{Name: "a"}, api.Schema{Name: "a", Fields: []api.Field{}}, true)
	wantSame(t, api.Schema{Name: "a"}, api.Schema{Name: "a", Fields: make([]api.Field, 0, 5)}, true)
	wantSame(t, api.Schema{Name: "a"}, api.Schema{Name: "a", Fields: make([]api.Field, 1)}, false)
	wantSame(t, api.Schema{Name: "a"}, api.Schema{Name: "b"}, false)
}

func TestSameOfFew(t *testing.T) {
	all := fewSchemas()
	by := rand.New(rand.NewSource(1))
	for _, a := range all {
		wantSame(t, a, copied(a), true)
		for range 40 {
			b := all[by.Intn(len(all))]
			wantSame(t, a, b, equal(a, b))
		}
	}
	for _, s := range append(wrongSchemas(), longSchemas()...) {
		wantSame(t, s, copied(s), true)
		wantSame(t, s, made("other", s.Fields...), false)
	}
}

// P7.2

func writer(t *testing.T, most int) *wire.Writer {
	t.Helper()
	w, e := wire.NewWriter(most)
	if e != api.OK {
		t.Fatalf("NewWriter(%d): %d", most, e)
	}
	return w
}

func text(s string) []byte { return append(binary.AppendUvarint(nil, uint64(len(s))), s...) }

// pieces are the bytes of a schema by other means, in the pieces that are each written, or taken, all or not at all.
func pieces(s api.Schema) [][]byte {
	l := [][]byte{text(s.Name), binary.AppendUvarint(nil, uint64(len(s.Fields)))}
	for _, f := range s.Fields {
		l = append(l, text(f.Name), []byte{byte(f.K)})
	}
	return l
}

func put(s api.Schema) []byte { return bytes.Join(pieces(s), nil) }

// fitting are the pieces that are there whole within n bytes.
func fitting(s api.Schema, n int) []byte {
	var b []byte
	for _, p := range pieces(s) {
		if len(b)+len(p) > n {
			break
		}
		b = append(b, p...)
	}
	return b
}

func wantPut(t *testing.T, s api.Schema, want string) {
	t.Helper()
	w, before := writer(t, api.MaxWire), copied(s)
	if e := schema.Put(w, s); e != api.OK || string(w.Done()) != want {
		t.Errorf("Put(%s): %d, % x, not % x", said(s), e, w.Done(), want)
	}
	if !equal(s, before) {
		t.Errorf("Put(%s) changed it", said(before))
	}
}

func TestPut(t *testing.T) {
	for _, x := range []struct {
		s    api.Schema
		want string
	}{
		{made("buy", field("x", api.VInt), field("k", api.VText)), "\x03buy\x02\x01x\x02\x01k\x03"},
		{made("a"), "\x01a\x00"}, {api.Schema{Name: "a", Fields: []api.Field{}}, "\x01a\x00"},
		{made("ab", field("x", api.VBool)), "\x02ab\x01\x01x\x01"}, {made("ab", field("x", api.VInt)), "\x02ab\x01\x01x\x02"}, {made("ab", field("x", api.VText)), "\x02ab\x01\x01x\x03"},
		{made(full, field(full, api.VBool)), "\x20" + full + "\x01\x20" + full + "\x01"},
		{made("m", many(api.MaxFields)...), "\x01m\x10\x02f0\x01\x02f1\x02\x02f2\x03\x02f3\x01\x02f4\x02\x02f5\x03\x02f6\x01\x02f7\x02\x02f8\x03\x02f9\x01\x03f10\x02\x03f11\x03\x03f12\x01\x03f13\x02\x03f14\x03\x03f15\x01"},
	} {
		wantPut(t, x.s, x.want)
	}
	for _, s := range rightSchemas() {
		wantPut(t, s, string(put(s)))
	}
}

func TestPutBehindOthers(t *testing.T) {
	w, want := writer(t, api.MaxWire), []byte{7}
	if e := w.Byte(7); e != api.OK {
		t.Fatal(e)
	}
	for _, s := range rightSchemas() {
		want = append(want, put(s)...)
		if e := schema.Put(w, s); e != api.OK || !bytes.Equal(w.Done(), want) {
			t.Fatalf("Put(%s): %d", said(s), e)
		}
	}
}

func wantPutRefused(t *testing.T, s api.Schema, want api.Errno) {
	t.Helper()
	w := writer(t, api.MaxWire)
	w.Byte(7)
	if e := schema.Put(w, s); e != want || string(w.Done()) != "\x07" {
		t.Errorf("Put(%s): %d, not %d, % .20x", said(s), e, want, w.Done())
	}
	for _, no := range []*wire.Writer{nil, {}, writer(t, 0)} { // a schema that is not right is told ahead of what is wrong with the Writer
		if e := schema.Put(no, s); e != want || len(no.Done()) != 0 {
			t.Errorf("Put(%s) without room: %d, not %d", said(s), e, want)
		}
	}
}

func TestPutRefuses(t *testing.T) {
	for _, s := range wrongSchemas() {
		wantPutRefused(t, s, api.ErrArg)
	}
	for _, s := range longSchemas() {
		wantPutRefused(t, s, api.ErrLong)
	}
}

// Each room that is too small, from none on: what was written ahead of the error stays, and no more.
func TestPutWithoutRoom(t *testing.T) {
	for _, s := range rightSchemas() {
		need := len(put(s))
		for room := range need + 2 {
			w, want := writer(t, 3+room), api.ErrLong
			if room >= need {
				want = api.OK
			}
			w.Text("zz")
			if e := schema.Put(w, s); e != want || !bytes.Equal(w.Done()[3:], fitting(s, room)) {
				t.Fatalf("Put(%s) into %d bytes: %d, % x", said(s), room, e, w.Done())
			}
		}
	}
}

// A piece that has no room ends it: none behind it is written, though it would fit.
func TestPutStopsAtTheFirstError(t *testing.T) {
	for _, x := range []struct {
		s    api.Schema
		room int
		want string
	}{
		{made("abc"), 0, ""}, {made("abc"), 3, ""}, {made("abc"), 4, "\x03abc"},
		{made("a", field("long", api.VInt), field("x", api.VInt)), 7, "\x01a\x02"}, {made("a", field("x", api.VInt)), 5, "\x01a\x01\x01x"}, {made("a", field("x", api.VInt), field("long", api.VInt)), 9, "\x01a\x02\x01x\x02"}, {made(full, field("x", api.VInt)), 10, ""},
	} {
		w := writer(t, x.room)
		if e := schema.Put(w, x.s); e != api.ErrLong || string(w.Done()) != x.want {
			t.Errorf("Put(%s) into %d bytes: %d, % x, not % x", said(x.s), x.room, e, w.Done(), x.want)
		}
		if e := w.Byte(9); x.room > len(x.want) && e != api.OK {
			t.Errorf("Byte behind it: %d", e)
		}
	}
}

func TestPutToNoWriter(t *testing.T) {
	for _, w := range []*wire.Writer{nil, {}} {
		for _, s := range rightSchemas() {
			if e := schema.Put(w, s); e != api.ErrZero || len(w.Done()) != 0 {
				t.Errorf("Put(%s): %d", said(s), e)
			}
		}
	}
}

func wantGet(t *testing.T, r *wire.Reader, s api.Schema, e api.Errno, at int) {
	t.Helper()
	got, err := schema.Get(r)
	if !equal(got, s) || err != e || r.At() != at {
		t.Errorf("Get: %s, %d, at %d, not %s, %d, at %d", said(got), err, r.At(), said(s), e, at)
	}
}

func wantNone(t *testing.T, b string, e api.Errno, at int) {
	t.Helper()
	got, err := schema.Get(wire.NewReader([]byte(b)))
	if got.Name != "" || len(got.Fields) != 0 || err != e {
		t.Errorf("Get(% .30x of %d): %s, %d, not %d", b, len(b), said(got), err, e)
	}
	wantGet(t, wire.NewReader([]byte(b)), api.Schema{}, e, at)
}

func TestGet(t *testing.T) {
	for _, s := range rightSchemas() {
		b := put(s)
		for _, behind := range []string{"", "\x00", "\x01", "\xff", "\x01a\x00"} {
			wantGet(t, wire.NewReader([]byte(string(b)+behind)), s, api.OK, len(b))
		}
	}
	wantGet(t, wire.NewReader([]byte("\x03buy\x02\x01x\x02\x01k\x03")), made("buy", field("x", api.VInt), field("k", api.VText)), api.OK, 11)
	wantGet(t, wire.NewReader([]byte("\x01a\x00")), made("a"), api.OK, 3)
}

func TestGetRefuses(t *testing.T) {
	const most = "\xff\xff\xff\xff\xff\xff\xff\xff\xff"
	behind := strings.Repeat("\x01x\x02", 300)
	for _, x := range []struct {
		b  string
		e  api.Errno
		at int
	}{
		// the bytes end ahead of the schema, or within it
		{"", api.ErrShort, 0}, {"\x01", api.ErrShort, 0}, {"\x80", api.ErrShort, 0}, {"\x03bu", api.ErrShort, 0}, {"\x03buy", api.ErrShort, 4}, {"\x03buy\x80", api.ErrShort, 4}, {"\x03buy\x01", api.ErrShort, 5}, {"\x03buy\x01\x01", api.ErrShort, 5}, {"\x03buy\x01\x80", api.ErrShort, 5}, {"\x03buy\x01\x02x", api.ErrShort, 5}, {"\x03buy\x01\x01x", api.ErrShort, 7}, {"\x03buy\x02\x01x\x02", api.ErrShort, 8}, {"\x03buy\x02\x01x\x02\x01k", api.ErrShort, 10},

		// a name that is too long, or whose length can't be
		{"\x21" + over, api.ErrForm, 0}, {"\x21" + over + "\x00", api.ErrForm, 0}, {"\x80\x01" + strings.Repeat("n", 128), api.ErrForm, 0}, {"\x81\x00a\x00", api.ErrForm, 0}, {"\x80\x00", api.ErrForm, 0}, {most + "\x02", api.ErrForm, 0}, {most + "\x01", api.ErrShort, 0}, {"\x21" + full, api.ErrShort, 0},
		{"\x01a\x01\x21" + over + "\x02", api.ErrForm, 3}, {"\x01a\x01\x21" + over, api.ErrForm, 3}, {"\x01a\x01\x81\x00x\x02", api.ErrForm, 3}, {"\x01a\x02\x01x\x02\x21" + over + "\x02", api.ErrForm, 6}, {"\x01a\x02\x01x\x02\x21" + full, api.ErrShort, 6},

		// a count above MaxFields, or that can't be
		{"\x01a\x11" + behind, api.ErrForm, 2}, {"\x01a\x12", api.ErrForm, 2}, {"\x01a\x7f" + behind, api.ErrForm, 2}, {"\x01a\x80\x01" + behind, api.ErrForm, 2}, {"\x01a\x80\x02" + behind, api.ErrForm, 2}, {"\x01a\x81\x00\x01x\x02", api.ErrForm, 2}, {"\x01a" + most + "\x01", api.ErrForm, 2}, {"\x01a" + most + "\x02", api.ErrForm, 2}, {"\x01a" + most, api.ErrShort, 2},

		// a name that is none
		{"\x00\x00", api.ErrForm, 2}, {"\x01A\x00", api.ErrForm, 3}, {"\x01A\x00\x00", api.ErrForm, 3}, {"\x021a\x00", api.ErrForm, 4}, {"\x02\xc3\xa4\x00", api.ErrForm, 4}, {"\x01a\x01\x00\x02", api.ErrForm, 5}, {"\x01a\x01\x01X\x02", api.ErrForm, 6}, {"\x01a\x02\x01x\x02\x01_\x02", api.ErrForm, 9}, {"\x01A\x01\x01x\x02", api.ErrForm, 6},

		// a kind that is null or none
		{"\x01a\x01\x01x\x00", api.ErrForm, 6}, {"\x01a\x01\x01x\x04", api.ErrForm, 6}, {"\x01a\x01\x01x\xff", api.ErrForm, 6}, {"\x01a\x01\x01x\x81", api.ErrForm, 6}, {"\x01a\x02\x01x\x00\x01y\x02", api.ErrForm, 9},

		// two fields with one name
		{"\x01a\x02\x01x\x02\x01x\x02", api.ErrForm, 9}, {"\x01a\x02\x01x\x02\x01x\x03", api.ErrForm, 9}, {"\x01a\x03\x01x\x02\x01y\x02\x01x\x01", api.ErrForm, 12}, {"\x01a\x10" + behind, api.ErrForm, 3 + 3*api.MaxFields},

		// what Check refuses, and an error of wire behind it, which is told
		{"\x01A", api.ErrShort, 2}, {"\x00", api.ErrShort, 1}, {"\x01A\x01\x01x", api.ErrShort, 5}, {"\x01a\x02\x01x\x00", api.ErrShort, 6}, {"\x01a\x03\x01x\x02\x01x\x02", api.ErrShort, 9}, {"\x01A\x11", api.ErrForm, 2}, {"\x01a\x02\x01x\x02\x01x", api.ErrShort, 8},
	} {
		wantNone(t, x.b, x.e, x.at)
	}
}

func TestGetOfEachBeginning(t *testing.T) {
	for _, s := range rightSchemas() {
		b := string(put(s))
		for i := range len(b) {
			wantNone(t, b[:i], api.ErrShort, len(fitting(s, i)))
		}
	}
}

// What Check refuses with whatever error is ErrForm; more fields than may be are refused by their count.
func TestGetOfNotRight(t *testing.T) {
	for _, s := range wrongSchemas() {
		long := len(s.Name) > api.MaxName
		for _, f := range s.Fields {
			long = long || len(f.Name) > api.MaxName || f.K != int(byte(f.K))
		}
		if b := put(s); !long {
			wantNone(t, string(b), api.ErrForm, len(b))
		}
	}
	for _, s := range longSchemas() {
		if len(s.Name) <= api.MaxName {
			wantNone(t, string(put(s)), api.ErrForm, len(text(s.Name)))
		}
	}
	for _, s := range fewSchemas() {
		b := put(s)
		if refused(s) != api.OK {
			wantNone(t, string(b), api.ErrForm, len(b))
		} else {
			wantGet(t, wire.NewReader(b), s, api.OK, len(b))
		}
	}
}

func TestGetOfEachCountAndKind(t *testing.T) {
	for c := range 256 {
		all := append([]byte{1, 'a', byte(c)}, strings.Repeat("\x01x\x01", 300)...)
		switch {
		case c == 0:
			wantGet(t, wire.NewReader(all), made("a"), api.OK, 3)
		case c == 1:
			wantGet(t, wire.NewReader(all), made("a", field("x", 1)), api.OK, 6)
		case c <= api.MaxFields:
			wantNone(t, string(all), api.ErrForm, 3+3*c)
		default:
			wantNone(t, string(all), api.ErrForm, 2)
		}
		one := []byte{1, 'a', 1, 1, 'x', byte(c)}
		if 1 <= c && c <= 3 {
			wantGet(t, wire.NewReader(one), made("a", field("x", c)), api.OK, 6)
		} else {
			wantNone(t, string(one), api.ErrForm, 6)
		}
	}
}

func TestGetOneBehindTheOther(t *testing.T) {
	var b []byte
	for _, s := range rightSchemas() {
		b = append(b, put(s)...)
	}
	r, at := wire.NewReader(b), 0
	for _, s := range rightSchemas() {
		at += len(put(s))
		wantGet(t, r, s, api.OK, at)
	}
	if e := r.End(); e != api.OK {
		t.Errorf("End: %d", e)
	}
	wantGet(t, r, api.Schema{}, api.ErrShort, len(b))
}

// What was taken ahead of an error stays taken: the next call goes on behind it.
func TestGetBehindAnError(t *testing.T) {
	r := wire.NewReader([]byte("\x01A\x00" + "\x01a\x01\x01x\x07" + "\x01b\x00" + "\x01c\x80\x00" + "\x01d\x01\x01"))
	wantGet(t, r, api.Schema{}, api.ErrForm, 3)
	wantGet(t, r, api.Schema{}, api.ErrForm, 9)
	wantGet(t, r, made("b"), api.OK, 12)
	wantGet(t, r, api.Schema{}, api.ErrForm, 14)
	wantGet(t, r, api.Schema{}, api.ErrForm, 14)
	if _, e := r.Byte(); e != api.OK {
		t.Fatal(e)
	}
	wantGet(t, r, api.Schema{}, api.ErrShort, 17) // no name, one field, whose name has 100 bytes
	wantGet(t, r, api.Schema{}, api.ErrShort, 17)
}

func TestGetFromNoReader(t *testing.T) {
	for _, r := range []*wire.Reader{nil, {}} {
		wantGet(t, r, api.Schema{}, api.ErrZero, 0)
	}
	for _, b := range [][]byte{nil, {}} {
		wantGet(t, wire.NewReader(b), api.Schema{}, api.ErrShort, 0)
	}
}

// Two answers of the same bytes share no memory.
func TestGetAnswersNewMemory(t *testing.T) {
	b := put(made("a", many(api.MaxFields)...))
	one, _ := schema.Get(wire.NewReader(b))
	two, _ := schema.Get(wire.NewReader(b))
	for i := range one.Fields {
		one.Fields[i] = field("changed", -1)
	}
	clear(b)
	if !equal(two, made("a", many(api.MaxFields)...)) {
		t.Errorf("changed: %s", said(two))
	}
}

// P7.3

func someName(by *rand.Rand) string {
	const signs = "abcxyz019_"
	b := []byte{signs[by.Intn(6)]}
	most := []int{0, 1, 3, api.MaxName - 1}[by.Intn(4)]
	for range by.Intn(most + 1) {
		b = append(b, signs[by.Intn(len(signs))])
	}
	return string(b)
}

func someSchema(by *rand.Rand) api.Schema {
	s := made(someName(by))
	for range by.Intn(api.MaxFields + 1) {
		f := field(someName(by), by.Intn(3)+1)
		if !slices.ContainsFunc(s.Fields, func(g api.Field) bool { return g.Name == f.Name }) {
			s.Fields = append(s.Fields, f)
		}
	}
	return s
}

func wantUndone(t *testing.T, l []api.Schema) {
	t.Helper()
	w := writer(t, api.MaxWire)
	for _, s := range l {
		if e := schema.Put(w, s); e != api.OK {
			t.Fatalf("Put(%s): %d", said(s), e)
		}
	}
	r := wire.NewReader(w.Done())
	for _, s := range l {
		back, e := schema.Get(r)
		if !schema.Same(back, s) || !equal(back, s) || e != api.OK {
			t.Fatalf("Get: %s, %d, not %s", said(back), e, said(s))
		}
	}
	if e := r.End(); e != api.OK {
		t.Fatalf("End: %d", e)
	}
}

func TestGetUndoesPut(t *testing.T) {
	wantUndone(t, rightSchemas())
	by := rand.New(rand.NewSource(2))
	for range 5000 {
		l := make([]api.Schema, by.Intn(5))
		for i := range l {
			l[i] = someSchema(by)
		}
		wantUndone(t, l)
	}
}

// wantPutAsGot: what is got is right, and put just as it was; what is not got is a zero value.
func wantPutAsGot(t *testing.T, b []byte) {
	t.Helper()
	r := wire.NewReader(b)
	s, e := schema.Get(r)
	if e != api.OK {
		if s.Name != "" || len(s.Fields) != 0 || e != api.ErrShort && e != api.ErrForm {
			t.Errorf("Get(% x): %s, %d", b, said(s), e)
		}
		return
	}
	wantCheck(t, s, api.OK)
	w := writer(t, r.At())
	if e := schema.Put(w, s); e != api.OK || refused(s) != api.OK || !bytes.Equal(w.Done(), b[:r.At()]) {
		t.Errorf("Get(% x): %s, which is put as % x, %d", b, said(s), w.Done(), e)
	}
}

func TestWhatIsGotIsPut(t *testing.T) {
	by := rand.New(rand.NewSource(3))
	for range 50000 {
		b := put(someSchema(by))
		wantPutAsGot(t, append(slices.Clone(b), byte(by.Intn(256))))
		b[by.Intn(len(b))] ^= 1 << by.Intn(8)
		wantPutAsGot(t, b)
		wantPutAsGot(t, b[:by.Intn(len(b)+1)])
	}
}

func TestPutTellsSchemasApart(t *testing.T) {
	seen := map[string]api.Schema{}
	for _, s := range append(rightSchemas(), fewSchemas()...) {
		if refused(s) != api.OK {
			continue
		}
		w := writer(t, api.MaxWire)
		schema.Put(w, s)
		if other, ok := seen[string(w.Done())]; ok && !equal(other, s) {
			t.Errorf("%s and %s are put as the same bytes", said(s), said(other))
		}
		seen[string(w.Done())] = s
	}
}

func FuzzGet(f *testing.F) {
	for _, s := range rightSchemas() {
		f.Add(put(s))
	}
	f.Add([]byte("\x01A\x00"))
	f.Add([]byte("\x01a\x02\x01x\x02\x01x\x02"))
	f.Add([]byte("\x21" + over))
	f.Fuzz(wantPutAsGot)
}

func FuzzSchema(f *testing.F) {
	f.Add("buy", "x", 2, "k", 3, 2)
	f.Add("a", "a", 1, "a", 1, 2)
	f.Add("a", "b", 0, "c", 4, 17)
	f.Add(over, full, 1, full[1:], 3, 16)
	f.Fuzz(func(t *testing.T, name, one string, k int, two string, m int, n int) {
		s := made(name, field(one, k), field(two, m))
		s.Fields = append(s.Fields, many(max(0, min(n, 20)-2))...)[:max(0, min(n, 20))]
		want := refused(s)
		wantCheck(t, s, want)
		wantBook(t, []api.Schema{s}, want)
		if want != api.OK {
			wantPutRefused(t, s, want)
			return
		}
		wantBook(t, []api.Schema{s, s}, api.ErrForm)
		wantPut(t, s, string(put(s)))
		wantUndone(t, []api.Schema{s, s})
	})
}
