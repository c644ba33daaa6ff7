package plan_test

import (
	"bytes"
	"encoding/binary"
	"fmt"
	"hash/crc32"
	"math"
	"math/rand"
	"slices"
	"strings"
	"testing"
	"unsafe"

	"haruspex/api"
	"haruspex/expr"
	"haruspex/frame"
	"haruspex/pat"
	"haruspex/plan"
	"haruspex/query"
)

var (
	name = strings.Repeat("n", api.MaxName)
	full = strings.Repeat("t", api.MaxText)
	// odd are text values of which some are easily taken for one another, or for a name.
	odd = []string{
		"", " ", "a", "a ", "A", "buy", "x", "k", "\x00", "a\x00", "\x00a", "\n", "'", "\\", "\xff", "\xff\xfe", "\x80", "\xc3", "\xc3\xa4", "\u00e9", "e\u0301", "\xed\xa0\x80",
		full, full[1:], full[1:] + "u", strings.Repeat("\x00", api.MaxText), strings.Repeat("\xff", api.MaxText), strings.Repeat("t", 127), strings.Repeat("t", 128),
	}
	wholes = []int64{0, 1, -1, 2, -2, 63, 64, -64, -65, 127, 128, 255, 256, 8191, 8192, math.MaxInt32, math.MinInt32, math.MaxInt64, math.MaxInt64 - 1, math.MinInt64, math.MinInt64 + 1}
)

func atom(v, t string) api.Pat { return api.Pat{K: api.PAtom, Var: v, Type: t} }

func not(v, t string) api.Pat { return api.Pat{K: api.PNot, Var: v, Type: t} }

func many(v, t string, lo, hi int) api.Pat {
	return api.Pat{K: api.PMany, Var: v, Type: t, Lo: lo, Hi: hi}
}

func row(k int, l ...api.Pat) api.Pat { return api.Pat{K: k, L: l} }

func seq(l ...api.Pat) api.Pat { return row(api.PSeq, l...) }

func and(l ...api.Pat) api.Pat { return row(api.PAnd, l...) }

func or(l ...api.Pat) api.Pat { return row(api.POr, l...) }

func field(v, f string) api.Expr { return api.Expr{K: api.XField, Var: v, Field: f} }

func constant(k int, n int64, s string) api.Expr {
	return api.Expr{K: api.XConst, V: api.Value{K: k, N: n, S: s}}
}

func whole(n int64) api.Expr { return constant(api.VInt, n, "") }

func text(s string) api.Expr { return constant(api.VText, 0, s) }

func op(k int, l ...api.Expr) api.Expr { return api.Expr{K: k, L: l} }

func item(name string, k int, v, f string) api.Item {
	return api.Item{Name: name, K: k, Var: v, Field: f}
}

// of is the least query that has p.
func of(p api.Pat) api.Query { return api.Query{P: p} }

// where is the least query that has l.
func where(l ...api.Expr) api.Query { return api.Query{P: atom("a", "buy"), Where: l} }

// all has each kind of pattern, condition, value and item, and each clause.
func all() api.Query {
	x, y := field("a", "x"), field("c", "y")
	return api.Query{
		P: seq(atom("a", "buy"), not("b", "sell"), or(many("c", "buy", 1, 0), and(atom("d", "buy"), many("e", "sell", 2, api.MaxMany)))),
		Where: []api.Expr{
			op(api.XEq, op(api.XNeg, x), op(api.XAdd, y, op(api.XSub, x, op(api.XMul, y, op(api.XDiv, x, op(api.XMod, y, whole(-300))))))),
			op(api.XOr, op(api.XAnd, op(api.XNe, field("a", "k"), text("it's")), op(api.XNot, op(api.XLt, x, y))), op(api.XLe, x, y), op(api.XGt, x, y), op(api.XGe, x, y)),
			constant(api.VNull, 0, ""), constant(api.VBool, 1, ""), constant(api.VBool, 0, ""), text(""),
		},
		Key: "k", Mode: api.MStrict, Within: 300,
		Items: []api.Item{item("f", api.IFirst, "a", "x"), item("l", api.ILast, "c", "y"), item("n", api.ICount, "c", ""), item("s", api.ISum, "d", "y")},
	}
}

// with is all with one change.
func with(change func(q *api.Query)) api.Query {
	q := all()
	change(&q)
	return q
}

func copiedPat(p api.Pat) api.Pat {
	var l []api.Pat
	for _, x := range p.L {
		l = append(l, copiedPat(x))
	}
	p.L = l
	return p
}

func copiedExpr(x api.Expr) api.Expr { x.L = copiedExprs(x.L); return x }

func copiedExprs(l []api.Expr) []api.Expr {
	var c []api.Expr
	for _, x := range l {
		c = append(c, copiedExpr(x))
	}
	return c
}

func copied(q api.Query) api.Query {
	q.P, q.Where, q.Items = copiedPat(q.P), copiedExprs(q.Where), append([]api.Item(nil), q.Items...)
	return q
}

func said(x any) string { return fmt.Sprintf("%.500s", fmt.Sprintf("%.40q", x)) }

// Models of the chapter's words, by other means.

// thing is a part of a plan, and how it is written: b a byte, n a number, i a whole number, t a text's number, m a text's number and 1, or 0.
type thing struct {
	as rune
	n  int64
	s  string
}

func thingsOfPat(p api.Pat) []thing {
	l := []thing{{'b', int64(p.K), ""}}
	if p.K == 1 || p.K == 5 || p.K == 6 {
		l = append(l, thing{'t', 0, p.Var}, thing{'t', 0, p.Type})
		if p.K == 5 {
			l = append(l, thing{'n', int64(p.Lo), ""}, thing{'n', int64(p.Hi), ""})
		}
		return l
	}
	l = append(l, thing{'n', int64(len(p.L)), ""})
	for _, x := range p.L {
		l = append(l, thingsOfPat(x)...)
	}
	return l
}

func thingsOfExpr(x api.Expr) []thing {
	l := []thing{{'b', int64(x.K), ""}}
	switch {
	case x.K == 1:
		l = append(l, thing{'b', int64(x.V.K), ""})
		if 1 <= x.V.K && x.V.K <= 3 {
			l = append(l, thing{rune(" bit"[x.V.K]), x.V.N, x.V.S})
		}
	case x.K == 2:
		l = append(l, thing{'t', 0, x.Var}, thing{'t', 0, x.Field})
	case x.K > 15:
		l = append(l, thing{'n', int64(len(x.L)), ""})
	}
	for _, y := range x.L {
		l = append(l, thingsOfExpr(y)...)
	}
	return l
}

func thingsOf(q api.Query) []thing {
	l := append(thingsOfPat(q.P), thing{'n', int64(len(q.Where)), ""})
	for _, x := range q.Where {
		l = append(l, thingsOfExpr(x)...)
	}
	l = append(l, thing{'m', 0, q.Key}, thing{'b', int64(q.Mode), ""}, thing{'n', q.Within, ""}, thing{'n', int64(len(q.Items)), ""})
	for _, x := range q.Items {
		l = append(l, thing{'t', 0, x.Name}, thing{'b', int64(x.K), ""}, thing{'t', 0, x.Var}, thing{'m', 0, x.Field})
	}
	return l
}

func textsOf(l []thing) []string {
	var texts []string
	for _, x := range l {
		if (x.as == 't' || x.as == 'm' && x.s != "") && !slices.Contains(texts, x.s) {
			texts = append(texts, x.s)
		}
	}
	return texts
}

func number(n uint64) []byte { return binary.AppendUvarint(nil, n) }

func textsIn(l ...string) []byte {
	b := number(uint64(len(l)))
	for _, s := range l {
		b = append(append(b, number(uint64(len(s)))...), s...)
	}
	return b
}

// written are the bytes of q's plan in its frame.
func written(q api.Query) []byte {
	l := thingsOf(q)
	texts := textsOf(l)
	b := append([]byte{0x51, 1}, textsIn(texts...)...)
	for _, x := range l {
		at := uint64(slices.Index(texts, x.s))
		switch {
		case x.as == 'b':
			b = append(b, byte(x.n))
		case x.as == 'i':
			b = binary.AppendVarint(b, x.n)
		case x.as == 't':
			b = append(b, number(at)...)
		case x.as == 'm' && x.s == "":
			b = append(b, 0)
		case x.as == 'm':
			b = append(b, number(at+1)...)
		default:
			b = append(b, number(uint64(x.n))...)
		}
	}
	return b
}

func framed(in []byte) []byte {
	b := append(number(uint64(len(in))), in...)
	return binary.LittleEndian.AppendUint32(b, crc32.ChecksumIEEE(b))
}

// cursor reads as much as it can be bothered to ask for, and panics with itself where nothing can be read.
type cursor struct {
	b     []byte
	texts []string
}

func (c *cursor) ask(ok bool) {
	if !ok {
		panic(c)
	}
}

func (c *cursor) take(n uint64) []byte {
	c.ask(n <= uint64(len(c.b)))
	b := c.b[:n]
	c.b = c.b[n:]
	return b
}

func (c *cursor) byte() int { return int(c.take(1)[0]) }

func (c *cursor) number() uint64 {
	n, k := binary.Uvarint(c.b)
	c.ask(k > 0 && n <= math.MaxInt64)
	c.take(uint64(k))
	return n
}

func (c *cursor) whole() int64 {
	n, k := binary.Varint(c.b)
	c.ask(k > 0)
	c.take(uint64(k))
	return n
}

func (c *cursor) text(less uint64) string {
	n := c.number()
	if less > 0 && n == 0 {
		return ""
	}
	c.ask(n-less < uint64(len(c.texts)))
	return c.texts[n-less]
}

func (c *cursor) pat() api.Pat {
	p := api.Pat{K: c.byte()}
	if p.K == 1 || p.K == 5 || p.K == 6 {
		p.Var, p.Type = c.text(0), c.text(0)
		if p.K == 5 {
			p.Lo, p.Hi = int(c.number()), int(c.number())
		}
		return p
	}
	for range c.number() {
		p.L = append(p.L, c.pat())
	}
	return p
}

func (c *cursor) expr() api.Expr {
	x := api.Expr{K: c.byte()}
	c.ask(1 <= x.K && x.K <= 17)
	parts := uint64(2)
	switch x.K {
	case 1:
		parts, x.V.K = 0, c.byte()
		switch x.V.K {
		case 1:
			x.V.N = int64(c.byte())
		case 2:
			x.V.N = c.whole()
		case 3:
			x.V.S = c.text(0)
		}
	case 2:
		parts, x.Var, x.Field = 0, c.text(0), c.text(0)
	case 3, 15:
		parts = 1
	case 16, 17:
		parts = c.number()
	}
	for range parts {
		x.L = append(x.L, c.expr())
	}
	return x
}

func (c *cursor) query() (q api.Query) {
	c.take(2)
	for range c.number() {
		c.texts = append(c.texts, string(c.take(c.number())))
	}
	q.P = c.pat()
	for range c.number() {
		q.Where = append(q.Where, c.expr())
	}
	q.Key, q.Mode, q.Within = c.text(1), c.byte(), int64(c.number())
	for range c.number() {
		q.Items = append(q.Items, item(c.text(0), c.byte(), c.text(0), c.text(1)))
	}
	return q
}

// readBy tells the query of which these are the bytes in the frame, and whether there is one.
func readBy(in []byte) (q api.Query, ok bool) {
	c := &cursor{b: in}
	defer func() {
		if p := recover(); p != nil {
			if p != any(c) {
				panic(p)
			}
			q, ok = api.Query{}, false
		}
	}()
	q = c.query()
	c.ask(len(c.b) == 0 && query.Check(q) == 0 && bytes.Equal(written(q), in))
	return q, true
}

func wantTexts(t *testing.T, what string, q api.Query, want ...string) {
	t.Helper()
	if got := plan.Texts(q); !slices.Equal(got, want) {
		t.Fatalf("Texts of %s: %s, not %s", what, said(got), said(want))
	}
}

// wantPut holds Texts and Put against the model, and Get against q; it answers the plan.
func wantPut(t *testing.T, what string, q api.Query) []byte {
	t.Helper()
	kept := copied(q)
	want := framed(written(q))
	wantTexts(t, what, q, textsOf(thingsOf(q))...)
	b, e := plan.Put(q)
	if e != api.OK || !bytes.Equal(b, want) {
		t.Fatalf("Put of %s: %d, %x, not %x", what, e, b, want)
	}
	got, n, e := plan.Get(b)
	if e != api.OK || n != len(b) || !query.Same(got, q) {
		t.Fatalf("Get of what Put made of %s: %s, %d, %d", what, said(got), n, e)
	}
	if !query.Same(q, kept) {
		t.Fatalf("%s became %s", what, said(q))
	}
	return b
}

func wantNoPut(t *testing.T, what string, q api.Query, want api.Errno) {
	t.Helper()
	if b, e := plan.Put(q); e != want || b != nil || query.Check(q) != want {
		t.Fatalf("Put of %s: %x, %d, not %d", what, b, e, want)
	}
}

func zero(q api.Query) bool {
	return query.Same(q, api.Query{}) && q.P.L == nil && q.Where == nil && q.Items == nil
}

func wantNoGet(t *testing.T, what string, b []byte, place int, want api.Errno) {
	t.Helper()
	if q, n, e := plan.Get(b); !zero(q) || n != place || e != want {
		t.Fatalf("Get of %s: %s, %d, %d, not %d, %d", what, said(q), n, e, place, want)
	}
}

// wantNoPlan asks for bytes whose frame is right.
func wantNoPlan(t *testing.T, what string, in []byte) {
	t.Helper()
	wantNoGet(t, what, framed(in), 0, api.ErrForm)
	if q, ok := readBy(in); ok {
		t.Fatalf("the model reads %s: %s", what, said(q))
	}
}

// wantAsModel asks for any bytes in a right frame, and tells whether they are a plan.
func wantAsModel(t *testing.T, in []byte) bool {
	t.Helper()
	b := framed(in)
	kept := bytes.Clone(b)
	want, ok := readBy(in)
	q, n, e := plan.Get(b)
	switch {
	case !bytes.Equal(b, kept):
		t.Fatalf("Get of %x made it %x", kept, b)
	case !ok && (!zero(q) || n != 0 || e != api.ErrForm), ok && (!query.Same(q, want) || n != len(b) || e != api.OK):
		t.Fatalf("Get of %x in a frame: %s, %d, %d, not %v, %s", in, said(q), n, e, ok, said(want))
	}
	if ok {
		if again, e := plan.Put(q); e != api.OK || !bytes.Equal(again, b) {
			t.Fatalf("Put of what Get read of %x: %d, %x", b, e, again)
		}
	}
	return ok
}

// bytesOf puts bytes together: of an int it has the number, of a text or a row its bytes, of texts these as a dictionary.
func bytesOf(parts ...any) []byte {
	var b []byte
	for _, x := range parts {
		switch x := x.(type) {
		case int:
			b = append(b, number(uint64(x))...)
		case string:
			b = append(b, x...)
		case []byte:
			b = append(b, x...)
		case []string:
			b = append(b, textsIn(x...)...)
		default:
			panic(fmt.Sprintf("%T", x))
		}
	}
	return b
}

type texts = []string

// clauses are no conditions, no Key, MAny, no window, no items.
const clauses = "\x00\x00\x00\x00\x00"

// least is the plan of of(atom("a", "buy")) in its frame.
func least() []byte { return bytesOf("Q\x01", texts{"a", "buy"}, 1, 0, 1, clauses) }

// byHand are queries and their plans in the frame.
func byHand() []struct {
	what string
	q    api.Query
	in   []byte
} {
	return []struct {
		what string
		q    api.Query
		in   []byte
	}{
		{"an atom", of(atom("a", "buy")), []byte("\x51\x01\x02\x01a\x03buy\x01\x00\x01\x00\x00\x00\x00\x00")},
		{"an atom of one text", of(atom("a", "a")), []byte("\x51\x01\x01\x01a\x01\x00\x00\x00\x00\x00\x00\x00")},
		{"a not", of(not("b", "sell")), []byte("\x51\x01\x02\x01b\x04sell\x06\x00\x01\x00\x00\x00\x00\x00")},
		{"a many", of(many("c", "buy", 300, 0)), []byte("\x51\x01\x02\x01c\x03buy\x05\x00\x01\xac\x02\x00\x00\x00\x00\x00\x00")},
		{"a many from 1 to 1000", of(many("c", "c", 1, 1000)), []byte("\x51\x01\x01\x01c\x05\x00\x00\x01\xe8\x07\x00\x00\x00\x00\x00")},
		{"a seq", of(seq(atom("a", "buy"), not("b", "sell"), atom("c", "buy"))), []byte("\x51\x01\x05\x01a\x03buy\x01b\x04sell\x01c\x02\x03\x01\x00\x01\x06\x02\x03\x01\x04\x01\x00\x00\x00\x00\x00")},
		{"an or of an and", of(or(and(atom("b", "b"), atom("a", "b")), atom("b", "a"))), []byte("\x51\x01\x02\x01b\x01a\x04\x02\x03\x02\x01\x00\x00\x01\x01\x00\x01\x00\x01\x00\x00\x00\x00\x00")},
		{"null, the bools and numbers", where(constant(api.VNull, 0, ""), constant(api.VBool, 0, ""), constant(api.VBool, 1, ""), whole(-3), whole(150)), bytesOf("Q\x01", texts{"a", "buy"}, 1, 0, 1, 5, "\x01\x00\x01\x01\x00\x01\x01\x01\x01\x02\x05\x01\x02\xac\x02", 0, 0, 0, 0)},
		{"texts", where(text("it's"), text(""), text("buy"), text("it's")), bytesOf("Q\x01", texts{"a", "buy", "it's", ""}, 1, 0, 1, 4, "\x01\x03\x02\x01\x03\x03\x01\x03\x01\x01\x03\x02", 0, 0, 0, 0)},
		{"fields", where(field("b", "x"), field("x", "a")), bytesOf("Q\x01", texts{"a", "buy", "b", "x"}, 1, 0, 1, 2, "\x02\x02\x03\x02\x03\x00", 0, 0, 0, 0)},
		{"one part", where(op(api.XNeg, op(api.XNot, whole(0)))), bytesOf("Q\x01", texts{"a", "buy"}, 1, 0, 1, 1, "\x03\x0f\x01\x02\x00", 0, 0, 0, 0)},
		{"two parts", where(op(api.XAdd, op(api.XGe, whole(0), whole(1)), whole(2))), bytesOf("Q\x01", texts{"a", "buy"}, 1, 0, 1, 1, "\x04\x0e\x01\x02\x00\x01\x02\x02\x01\x02\x04", 0, 0, 0, 0)},
		{"more parts", where(op(api.XOr, op(api.XAnd, whole(0), whole(1)), whole(2), whole(3))), bytesOf("Q\x01", texts{"a", "buy"}, 1, 0, 1, 1, "\x11\x03\x10\x02\x01\x02\x00\x01\x02\x02\x01\x02\x04\x01\x02\x06", 0, 0, 0, 0)},
		{"a new Key", api.Query{P: atom("a", "buy"), Key: "k"}, bytesOf("Q\x01", texts{"a", "buy", "k"}, 1, 0, 1, 0, 3, 0, 0, 0)},
		{"a Key that is a Var", api.Query{P: atom("a", "buy"), Key: "a"}, bytesOf("Q\x01", texts{"a", "buy"}, 1, 0, 1, 0, 1, 0, 0, 0)},
		{"a Mode and a window", api.Query{P: atom("a", "buy"), Mode: api.MNear, Within: 300}, bytesOf("Q\x01", texts{"a", "buy"}, 1, 0, 1, 0, 0, "\x01\xac\x02", 0)},
		{"the greatest window", api.Query{P: atom("a", "buy"), Mode: api.MStrict, Within: api.MaxWithin}, bytesOf("Q\x01", texts{"a", "buy"}, 1, 0, 1, 0, 0, "\x02\x80\x80\x80\x80\x80\x20", 0)},
		{"items", api.Query{P: atom("a", "buy"), Items: []api.Item{item("n", api.ICount, "a", ""), item("a", api.ISum, "b", "a"), item("buy", api.IFirst, "n", "x"), item("x", api.ILast, "a", "b")}}, bytesOf("Q\x01", texts{"a", "buy", "n", "b", "x"}, 1, 0, 1, 0, 0, 0, 0, 4, "\x02\x03\x00\x00\x00\x04\x03\x01\x01\x01\x02\x05\x04\x02\x00\x04")},
	}
}

// P24.1

// The document's example.
func TestBegins(t *testing.T) {
	for _, x := range byHand() {
		b, e := plan.Put(x.q)
		in, _, f := frame.Open(b, 0)
		if e != api.OK || f != api.OK || in[0] != 0x51 || in[1] != 0x01 {
			t.Errorf("Put of %s: %x, %d, %d", x.what, b, e, f)
		}
	}
}

func TestByHand(t *testing.T) {
	for _, x := range byHand() {
		if b, e := plan.Put(x.q); e != api.OK || !bytes.Equal(b, framed(x.in)) {
			t.Errorf("Put of %s: %d, %x, not %x in a frame", x.what, e, b, x.in)
		}
		if q, n, e := plan.Get(framed(x.in)); e != api.OK || n != len(framed(x.in)) || !query.Same(q, x.q) {
			t.Errorf("Get of %s: %s, %d, %d", x.what, said(q), n, e)
		}
		wantPut(t, x.what, x.q)
	}
	b, e := plan.Put(of(atom("a", "buy")))
	if e != api.OK || string(b) != "\x11\x51\x01\x02\x01a\x03buy\x01\x00\x01\x00\x00\x00\x00\x00\xb3\xc5\x6f\x17" {
		t.Errorf("Put: %x, %d", b, e)
	}
}

func TestPutOfAll(t *testing.T) {
	wantPut(t, "all", all())
	for k := range api.MStrict + 1 {
		wantPut(t, "a Mode", with(func(q *api.Query) { q.Mode = k }))
	}
	for _, key := range []string{"", "k", "a", "buy", "zz", name} {
		wantPut(t, "a Key", with(func(q *api.Query) { q.Key = key }))
	}
	wantPut(t, "no conditions", with(func(q *api.Query) { q.Where = nil }))
	wantPut(t, "no items", with(func(q *api.Query) { q.Items = nil }))
	wantPut(t, "empty lists", with(func(q *api.Query) { q.Where, q.Items = []api.Expr{}, []api.Item{} }))
	for k := api.PAtom; k <= api.PNot; k++ {
		wantPut(t, "a kind of pattern", with(func(q *api.Query) { q.P = patOf(k) }))
		for j := api.PAtom; j <= api.PNot; j++ {
			if in := row(k, patOf(j), patOf(api.PAtom), patOf(j)); k == api.PSeq || k == api.PAnd || k == api.POr {
				if j != k {
					wantPut(t, "a kind of pattern in another one", of(in))
				}
			}
		}
	}
	for k := api.XConst; k <= api.XOr; k++ {
		wantPut(t, "a kind of condition", where(op(api.XNeg, exprOf(k))))
		for j := api.XConst; j <= api.XOr; j++ {
			x := exprOf(k, exprOf(j), whole(1), exprOf(j))
			if expr.Check(x) == api.OK {
				wantPut(t, "a kind of condition in another one", where(op(api.XNeg, x), op(api.XNeg, exprOf(j))))
			}
		}
	}
	for k := api.IFirst; k <= api.ISum; k++ {
		x := item("n", k, "v", "f")
		if k == api.ICount {
			x.Field = ""
		}
		wantPut(t, "a kind of item", api.Query{P: atom("a", "buy"), Items: []api.Item{x}})
	}
}

// patOf is a pattern of kind k that is right.
func patOf(k int) api.Pat {
	switch k {
	case api.PAtom, api.PNot:
		return api.Pat{K: k, Var: "p", Type: "t"}
	case api.PMany:
		return many("m", "u", 2, 3)
	}
	return row(k, atom("q", "t"), many("r", "u", 4, 0))
}

// exprOf is a condition of kind k that has as many of l as that has parts; it is right if l are many enough, of other kinds, and right.
func exprOf(k int, l ...api.Expr) api.Expr {
	if len(l) == 0 {
		l = []api.Expr{field("a", "x"), whole(7), text("p")}
	}
	switch {
	case k == api.XConst:
		return whole(-7)
	case k == api.XField:
		return field("b", "y")
	case k == api.XNeg || k == api.XNot:
		return op(k, l[0])
	case k < api.XNot:
		return op(k, l[:2]...)
	}
	return op(k, l...)
}

func TestPutOfNumbersAtTheirEnds(t *testing.T) {
	for _, lo := range []int{1, 2, 3, 126, 127, 128, 129, 255, 256, 999, api.MaxMany} {
		for _, hi := range []int{0, 1, 2, 3, 127, 128, 256, 999, api.MaxMany} {
			if q := of(many("c", "buy", lo, hi)); hi == 0 || hi >= lo && hi > 1 {
				wantPut(t, fmt.Sprintf("a many of %d to %d", lo, hi), q)
			} else {
				wantNoPut(t, fmt.Sprintf("a many of %d to %d", lo, hi), q, api.ErrArg)
			}
		}
	}
	for _, n := range []int64{0, 1, 2, 126, 127, 128, 129, 255, 256, 16383, 16384, math.MaxInt32, math.MaxUint32, api.MaxWithin - 1, api.MaxWithin} {
		wantPut(t, fmt.Sprint("a window of ", n), api.Query{P: atom("a", "buy"), Within: n})
	}
	for _, n := range []int64{-1, -2, math.MinInt64, api.MaxWithin + 1, math.MaxInt64} {
		wantNoPut(t, fmt.Sprint("a window of ", n), api.Query{P: atom("a", "buy"), Within: n}, api.ErrArg)
	}
	for _, n := range wholes {
		wantPut(t, fmt.Sprint("the number ", n), where(whole(n)))
	}
	for _, s := range odd {
		wantPut(t, "the text "+said(s), where(text(s)))
	}
	for n := range api.MaxWhere + 1 {
		wantPut(t, fmt.Sprint(n, " conditions"), where(slices.Repeat([]api.Expr{whole(1)}, n)...))
	}
	for n := range api.MaxItems + 1 {
		wantPut(t, fmt.Sprint(n, " items"), api.Query{P: atom("a", "buy"), Items: items(n)})
	}
}

// items has n that are right.
func items(n int) []api.Item {
	var l []api.Item
	for i := range n {
		l = append(l, item(fmt.Sprint("n", i), []int{api.IFirst, api.ILast, api.ISum}[i%3], "a", fmt.Sprint("x", i%5)))
	}
	return l
}

// leaves has n atoms with names of size bytes, all of them others.
func leaves(n, size int) []api.Pat {
	var l []api.Pat
	for i := range n {
		l = append(l, atom(long("v", i, size), long("t", i, size)))
	}
	return l
}

// long begins with s and ends with i; it has size bytes, or just as many as these have.
func long(s string, i, size int) string {
	end := fmt.Sprint(i)
	return s + strings.Repeat("_", max(0, size-len(s)-len(end))) + end
}

func longs(n, size int) []api.Expr {
	var l []api.Expr
	for i := range n {
		l = append(l, text(long("", i, size)))
	}
	return l
}

// Numbers of texts that have more than one byte.
func TestPutOfManyTexts(t *testing.T) {
	for n := 61; n < api.MaxNodes; n++ {
		for _, m := range []int{2, 3, 4, 5, 6, 98} {
			q := of(seq(leaves(n, 0)...))
			q.Where = []api.Expr{op(api.XOr, longs(m, 3)...)}
			for _, q.Key = range []string{"", "k", "v0", "t62", "v61"} {
				for _, q.Items = range [][]api.Item{nil, items(2), {item("n", api.ILast, "v62", "t61")}} {
					if l := plan.Texts(q); len(l) < 2*n+m {
						t.Fatalf("Texts: %d", len(l))
					}
					wantPut(t, "many texts", q)
				}
			}
		}
	}
}

// greatest has as many bytes as a query that is right can have: no name or text is shorter than it may be, and none stands twice.
func greatest() api.Query {
	q := of(or(leaves(api.MaxNodes-1, api.MaxName)...))
	for i := range q.P.L {
		q.P.L[i].K, q.P.L[i].Lo, q.P.L[i].Hi = api.PMany, api.MaxMany, api.MaxMany
	}
	q.Where = []api.Expr{op(api.XOr, longs(api.MaxExpr-2, api.MaxText)...)}
	q.Key, q.Mode, q.Within = long("k", 0, api.MaxName), api.MStrict, api.MaxWithin
	for i := range api.MaxItems {
		q.Items = append(q.Items, item(long("n", i, api.MaxName), api.ISum, long("w", i, api.MaxName), long("x", i, api.MaxName)))
	}
	return q
}

// So ErrLong is that of query.Check alone: there is no query that is right, but has more than MaxWire bytes.
func TestGreatest(t *testing.T) {
	q := greatest()
	b := wantPut(t, "the greatest", q)
	if len(plan.Texts(q)) != 2*63+98+1+3*16 || len(b) < 30000 || len(b) > api.MaxWire/2+2048 {
		t.Errorf("the greatest: %d texts, %d bytes", len(plan.Texts(q)), len(b))
	}
	q.P.L = append(q.P.L, atom("one", "more"))
	wantNoPut(t, "one node more", q, api.ErrLong)
	q = greatest()
	q.Where[0].L = append(q.Where[0].L, text("more"))
	wantNoPut(t, "one condition more", q, api.ErrLong)
	q = greatest()
	q.Items = append(q.Items, item("more", api.IFirst, "a", "x"))
	wantNoPut(t, "one item more", q, api.ErrLong)
	q = greatest()
	q.Where[0].L[7].V.S += "t"
	wantNoPut(t, "a longer text", q, api.ErrArg)
	q = greatest()
	q.P.L[7].Var += "n"
	wantNoPut(t, "a longer name", q, api.ErrArg)
}

// refused are queries that query.Check refuses, and its errors.
func refused() map[string]struct {
	q api.Query
	e api.Errno
} {
	type one = struct {
		q api.Query
		e api.Errno
	}
	l := map[string]one{
		"nothing":                {api.Query{}, api.ErrArg},
		"too many nodes":         {of(seq(leaves(api.MaxNodes, 0)...)), api.ErrLong},
		"too deep a pattern":     {of(chain(api.MaxDeep + 1)), api.ErrLong},
		"too many and all wrong": {api.Query{P: row(9, leaves(api.MaxNodes, 0)...), Key: "K", Mode: 9}, api.ErrLong},
		"too great a condition":  {where(op(api.XOr, longs(api.MaxExpr, 1)...)), api.ErrLong},
		"too great ones":         {where(op(api.XOr, longs(60, 1)...), op(api.XOr, longs(38, 1)...)), api.ErrLong},
		"a condition of 100":     {where(op(api.XOr, longs(api.MaxExpr-1, 1)...)), api.ErrLong},
		"too many conditions":    {where(longs(api.MaxWhere+1, 1)...), api.ErrLong},
		"too many items":         {api.Query{P: atom("a", "buy"), Items: items(api.MaxItems + 1)}, api.ErrLong},
	}
	wrong := func(what string, change func(q *api.Query)) { l[what] = one{with(change), api.ErrArg} }
	for i, p := range []api.Pat{
		{}, {K: -1}, {K: 7}, {K: 256 + 1, Var: "a", Type: "buy"}, {K: api.PAtom}, atom("", "buy"), atom("a", ""), atom("A", "buy"), atom("a", "a b"), atom(name+"n", "buy"), not("a", "1"),
		seq(), seq(atom("a", "buy")), seq(atom("a", "buy"), seq(atom("b", "buy"), atom("c", "buy"))), many("a", "buy", 1, 1), many("a", "buy", 0, 0), many("a", "buy", 3, 2), many("a", "buy", api.MaxMany+1, 0),
		{K: api.PAtom, Var: "a", Type: "buy", Lo: 1}, {K: api.PAtom, Var: "a", Type: "buy", L: leaves(1, 0)}, {K: api.PSeq, Var: "a", L: leaves(2, 0)}, {K: api.POr, Type: "a", L: leaves(2, 0)},
	} {
		wrong(fmt.Sprint("pattern ", i), func(q *api.Query) { q.P = p })
		wrong(fmt.Sprint("part ", i), func(q *api.Query) { q.P = row(api.PAnd, atom("a", "buy"), row(api.POr, p, atom("b", "buy"))) })
	}
	for i, x := range []api.Expr{
		{}, {K: -1}, {K: 18}, {K: 256 + api.XNot, L: []api.Expr{whole(1)}}, op(api.XNeg), op(api.XNot, whole(1), whole(2)), op(api.XAdd, whole(1)), op(api.XGe, whole(1), whole(2), whole(3)), op(api.XOr), op(api.XOr, whole(1)), op(api.XAnd, whole(1)),
		op(api.XOr, op(api.XOr, whole(1), whole(2)), whole(3)), field("", "x"), field("a", ""), field("a", "X"), constant(api.VNull, 1, ""), constant(api.VBool, 2, ""), constant(api.VBool, -1, ""), constant(api.VInt, 1, "s"), constant(api.VText, 1, "s"), text(full + "t"), constant(4, 0, ""), constant(-1, 0, ""), constant(256+api.VInt, 0, ""),
		{K: api.XField, Var: "a", Field: "x", L: []api.Expr{whole(1)}}, {K: api.XConst, Var: "a"}, {K: api.XNot, Field: "x", L: []api.Expr{whole(1)}}, {K: api.XField, Var: "a", Field: "x", V: api.Value{K: api.VInt}},
	} {
		wrong(fmt.Sprint("condition ", i), func(q *api.Query) { q.Where = []api.Expr{x} })
		wrong(fmt.Sprint("part of a condition ", i), func(q *api.Query) { q.Where = []api.Expr{whole(1), op(api.XLt, whole(1), x)} })
	}
	wrong("an and", func(q *api.Query) { q.Where[2] = op(api.XAnd, whole(1), whole(2)) })
	for i, s := range []string{"K", "1", " ", "a b", name + "n", "\x00"} {
		wrong(fmt.Sprint("Key ", i), func(q *api.Query) { q.Key = s })
		wrong(fmt.Sprint("Name ", i), func(q *api.Query) { q.Items[0].Name = s })
		wrong(fmt.Sprint("Var ", i), func(q *api.Query) { q.Items[1].Var = s })
		wrong(fmt.Sprint("Field ", i), func(q *api.Query) { q.Items[3].Field = s })
	}
	wrong("no Name", func(q *api.Query) { q.Items[0].Name = "" })
	wrong("no Var", func(q *api.Query) { q.Items[0].Var = "" })
	wrong("no Field", func(q *api.Query) { q.Items[0].Field = "" })
	wrong("a Field", func(q *api.Query) { q.Items[2].Field = "x" })
	wrong("one Name", func(q *api.Query) { q.Items[0].Name = q.Items[3].Name })
	for _, k := range []int{-1, 3, 4, 256, 257, math.MaxInt, math.MinInt} {
		wrong(fmt.Sprint("Mode ", k), func(q *api.Query) { q.Mode = k })
	}
	for _, k := range []int{-1, 0, 5, 256 + 1, 256 + 4, math.MaxInt, math.MinInt} {
		wrong(fmt.Sprint("item's kind ", k), func(q *api.Query) { q.Items[0].K = k })
	}
	return l
}

// chain is deep nodes deep: seqs and ands in one another, each with an atom ahead.
func chain(deep int) api.Pat {
	p := atom("z", "buy")
	for i := range deep - 1 {
		p = row(api.PSeq+i%2, atom(fmt.Sprint("v", i), "buy"), p)
	}
	return p
}

func TestPutOfRefused(t *testing.T) {
	for what, x := range refused() {
		wantNoPut(t, what, x.q, x.e)
	}
}

// Texts

func TestTexts(t *testing.T) {
	wantTexts(t, "all", all(), "a", "buy", "b", "sell", "c", "d", "e", "x", "y", "k", "it's", "", "f", "l", "n", "s")
	wantTexts(t, "none", api.Query{})
	if l := plan.Texts(api.Query{}); len(l) != 0 {
		t.Errorf("Texts of nothing: %q", l)
	}
}

// places are all places where a text may stand, in the order in which they are written; of a maybe the empty text is none.
func places(q *api.Query) (l []*string, maybe []int) {
	for i := range q.P.L {
		l = append(l, &q.P.L[i].Var, &q.P.L[i].Type)
	}
	x := &q.Where[0]
	l = append(l, &x.L[0].Var, &x.L[0].Field, &x.L[1].V.S, &q.Where[1].V.S, &q.Key)
	maybe = append(maybe, len(l)-1)
	for i := range q.Items {
		y := &q.Items[i]
		l = append(l, &y.Name, &y.Var, &y.Field)
		maybe = append(maybe, len(l)-1)
	}
	return l, maybe
}

// open has each place where a text may stand, and no text.
func open() api.Query {
	return api.Query{
		P:     seq(atom("", ""), many("", "", 1, 0), not("", "")),
		Where: []api.Expr{op(api.XEq, field("", ""), text("")), text("")},
		Items: []api.Item{item("", api.IFirst, "", ""), item("", api.ICount, "", "")},
	}
}

// Each place alone, each two with one text and with two, and all of them.
func TestTextsOfEachPlace(t *testing.T) {
	q := open()
	l, maybe := places(&q)
	if len(l) != 17 {
		t.Fatalf("%d places", len(l))
	}
	wantTexts(t, "all empty", q, "")
	ordered := func(set map[int]string) []string {
		var want []string
		for i := range l {
			s, ok := set[i]
			if (ok || !slices.Contains(maybe, i)) && !slices.Contains(want, s) {
				want = append(want, s)
			}
		}
		return want
	}
	for i := range l {
		*l[i] = "one"
		wantTexts(t, fmt.Sprint("place ", i), q, ordered(map[int]string{i: "one"})...)
		for j := range l {
			if j != i {
				*l[j] = "two"
				wantTexts(t, fmt.Sprint("places ", i, j), q, ordered(map[int]string{i: "one", j: "two"})...)
				*l[j] = "one"
				wantTexts(t, fmt.Sprint("a text twice, at ", i, j), q, ordered(map[int]string{i: "one", j: "one"})...)
				*l[j] = ""
			}
		}
		*l[i] = ""
	}
	var want []string
	for i := range l {
		*l[i] = fmt.Sprint("s", i)
		want = append(want, *l[i])
	}
	wantTexts(t, "all places", q, want...)
	for i := range l { // each of them twice: where it stands first counts
		for j := i + 1; j < len(l); j++ {
			kept := *l[j]
			*l[j] = *l[i]
			wantTexts(t, fmt.Sprint("the one of ", i, " at ", j), q, slices.Delete(slices.Clone(want), j, j+1)...)
			*l[j] = kept
		}
	}
}

// Each row of few texts at few places.
func TestTextsOfEachRow(t *testing.T) {
	q := api.Query{P: atom("", ""), Where: []api.Expr{field("", ""), text("")}, Items: []api.Item{{}}}
	l := []*string{&q.P.Var, &q.P.Type, &q.Where[0].Var, &q.Where[0].Field, &q.Where[1].V.S, &q.Key, &q.Items[0].Name, &q.Items[0].Var, &q.Items[0].Field}
	for n := range 19683 { // 3 to the 9
		var want []string
		for i, s := range l {
			*s = []string{"", "a", "ab"}[n%3]
			n /= 3
			if (*s != "" || i != 5 && i != 8) && !slices.Contains(want, *s) {
				want = append(want, *s)
			}
		}
		wantTexts(t, said(q), q, want...)
	}
}

func TestTextsThatComeTwice(t *testing.T) {
	q := api.Query{
		P:     seq(atom("a", "a"), atom("a", "b"), not("b", "a"), many("c", "b", 1, 0)),
		Where: []api.Expr{op(api.XLt, field("c", "x"), field("x", "c")), text("x"), text("a"), text("q"), text("q")},
		Key:   "q",
		Items: []api.Item{item("a", api.IFirst, "q", "b"), item("n", api.ILast, "n", "n"), item("a", api.ISum, "n", "z")},
	}
	wantTexts(t, "texts that come twice", q, "a", "b", "c", "x", "q", "n", "z")
	q.Key = "z"
	wantTexts(t, "Key in an item too", q, "a", "b", "c", "x", "q", "z", "n")
	q.P.L[3].Type = "z"
	wantTexts(t, "and in the pattern", q, "a", "b", "c", "z", "x", "q", "n")
}

// Fields that a kind does not have are not written, so no text of theirs is there; parts of a node are where its kind has parts, and a condition's always.
func TestTextsOfWhatIsNotWritten(t *testing.T) {
	v := api.Value{K: api.VText, S: "s"}
	for k := -1; k < 9; k++ {
		p := api.Pat{K: k, Var: "v", Type: "t", Lo: 1, Hi: 2, L: []api.Pat{atom("a", "b")}}
		want := []string{"a", "b"}
		if k == api.PAtom || k == api.PMany || k == api.PNot {
			want = []string{"v", "t"}
		}
		wantTexts(t, fmt.Sprint("a pattern of kind ", k), of(p), want...)
		wantTexts(t, fmt.Sprint("a part of kind ", k), of(or(p, atom("c", "v"))), append(slices.Clone(want), textsBehind(want, "c", "v")...)...)
	}
	for k := -1; k < 20; k++ {
		x := api.Expr{K: k, V: v, Var: "v", Field: "f", L: []api.Expr{text("p"), field("q", "r")}}
		var want []string
		switch k {
		case api.XConst:
			want = []string{"s"}
		case api.XField:
			want = []string{"v", "f"}
		}
		want = append(want, "p", "q", "r")
		wantTexts(t, fmt.Sprint("a condition of kind ", k), api.Query{Where: []api.Expr{x}}, want...)
		wantTexts(t, fmt.Sprint("a part of a condition of kind ", k), api.Query{Where: []api.Expr{op(api.XNot, x)}}, want...)
	}
	for k := -1; k < 9; k++ {
		x := api.Expr{K: api.XConst, V: api.Value{K: k, N: 1, S: "s"}, Var: "v", Field: "f"}
		var want []string
		if k == api.VText {
			want = []string{"s"}
		}
		wantTexts(t, fmt.Sprint("a value of kind ", k), api.Query{Where: []api.Expr{x}}, want...)
	}
	for k := -1; k < 9; k++ { // of an item all is written, whatever its kind
		wantTexts(t, fmt.Sprint("an item of kind ", k), api.Query{Items: []api.Item{item("n", k, "v", "f")}}, "n", "v", "f")
		wantTexts(t, fmt.Sprint("an item without a Field, of kind ", k), api.Query{Items: []api.Item{item("n", k, "v", "")}}, "n", "v")
	}
	for _, k := range []int{256 + api.PAtom, 256 + api.PMany, -255, math.MinInt + 1} {
		wantTexts(t, fmt.Sprint("a pattern of kind ", k), of(api.Pat{K: k, Var: "v", Type: "t", L: leaves(1, 0)}), "v0", "t0")
		wantTexts(t, fmt.Sprint("a condition of kind ", k), api.Query{Where: []api.Expr{{K: k, Var: "v", Field: "f", V: v, L: longs(1, 1)}}}, "0")
		wantTexts(t, fmt.Sprint("a value of kind ", k), api.Query{Where: []api.Expr{constant(k+2, 0, "s")}})
	}
}

// textsBehind are those of l that are not in ahead.
func textsBehind(ahead []string, l ...string) []string {
	return slices.DeleteFunc(l, func(s string) bool { return slices.Contains(ahead, s) })
}

func TestTextsThatAreEmpty(t *testing.T) {
	wantTexts(t, "an empty Var", of(atom("", "buy")), "", "buy")
	wantTexts(t, "an empty Type", of(not("a", "")), "a", "")
	wantTexts(t, "both empty", of(many("", "", 1, 0)), "")
	wantTexts(t, "an empty Var of a condition", where(field("", "x")), "a", "buy", "", "x")
	wantTexts(t, "an empty Field of a condition", where(field("a", "")), "a", "buy", "")
	wantTexts(t, "an empty text value", where(text("")), "a", "buy", "")
	wantTexts(t, "null", where(constant(api.VNull, 0, "")), "a", "buy")
	wantTexts(t, "no Key", api.Query{P: atom("a", "buy"), Key: ""}, "a", "buy")
	wantTexts(t, "an empty Name", api.Query{Items: []api.Item{item("", 1, "v", "f")}}, "", "v", "f")
	wantTexts(t, "an item's empty Var", api.Query{Items: []api.Item{item("n", 1, "", "f")}}, "n", "", "f")
	wantTexts(t, "an item's empty Field", api.Query{Items: []api.Item{item("n", 1, "v", ""), item("m", 1, "v", "")}}, "n", "v", "m")
	wantTexts(t, "an item of nothing", api.Query{Items: []api.Item{{}}}, "")
}

func TestTextsOfRefused(t *testing.T) {
	for what, x := range refused() {
		wantTexts(t, what, x.q, textsOf(thingsOf(x.q))...)
	}
	// Texts are neither counted nor measured.
	over := full + "t"
	wantTexts(t, "long texts", api.Query{P: atom(over, strings.Repeat("x", api.MaxWire+1)), Where: []api.Expr{text(over + over)}, Key: over, Items: []api.Item{item(over, 9, "\xff", over+"t")}},
		over, strings.Repeat("x", api.MaxWire+1), over+over, "\xff", over+"t")
	var want []string
	q := api.Query{Mode: -1, Within: -1}
	for i := range 3 * api.MaxEvents {
		s := fmt.Sprint(i)
		want = append(want, s)
		q.Where = append(q.Where, text(s))
		if i%2 == 0 {
			want = append(want, "n"+s)
			q.Items = append(q.Items, item("", 0, s, "n"+s))
		}
	}
	var l []string
	for _, s := range want {
		if s[0] != 'n' {
			l = append(l, s)
		}
	}
	l = append(l, "")
	for _, s := range want {
		if s[0] == 'n' {
			l = append(l, s)
		}
	}
	wantTexts(t, "many texts", q, l...)
}

// tall is n nodes deep, with one part each.
func tall(n int, leaf api.Pat) api.Pat {
	for i := range n - 1 {
		leaf = row(api.PSeq+i%3, leaf)
	}
	return leaf
}

func tallExpr(n int, leaf api.Expr) api.Expr {
	for i := range n - 1 {
		leaf = op(api.XNeg+12*(i%2), leaf)
	}
	return leaf
}

// wideExpr has n nodes, all but the first texts.
func wideExpr(s string, n int) api.Expr {
	x := op(api.XOr)
	for i := range n - 1 {
		x.L = append(x.L, text(fmt.Sprint(s, i)))
	}
	return x
}

// Each tree may have just so many nodes, whatever the others have, and whether a node is written or not.
func TestTextsOfGreatTrees(t *testing.T) {
	const nodes, parts = 4 * api.MaxNodes, 4 * api.MaxExpr
	ok := func(what string, q api.Query) {
		t.Helper()
		want := textsOf(thingsOf(q))
		if len(want) == 0 {
			t.Fatalf("%s: no texts", what)
		}
		wantTexts(t, what, q, want...)
	}
	no := func(what string, q api.Query) {
		t.Helper()
		wantTexts(t, what, q)
	}
	for k := -1; k < 9; k++ {
		wide := row(k, leaves(nodes-1, 0)...)
		wide.Var, wide.Type = "v", "t"
		ok(fmt.Sprint("a wide pattern of kind ", k), of(wide))
		wide.L = append(wide.L, atom("one", "more"))
		no(fmt.Sprint("a wider pattern of kind ", k), of(wide))
		cond := api.Query{P: atom("a", "buy"), Where: []api.Expr{{K: k, Var: "v", Field: "f", V: api.Value{K: api.VText}, L: longs(parts-1, 0)}}}
		ok(fmt.Sprint("a wide condition of kind ", k), cond)
		cond.Where[0].L = append(cond.Where[0].L, whole(1))
		no(fmt.Sprint("a wider condition of kind ", k), cond)
	}
	ok("a tall pattern", of(tall(nodes, atom("a", "buy"))))
	no("a taller pattern", of(tall(nodes+1, atom("a", "buy"))))
	no("a tall pattern with parts of its atom", of(tall(nodes, api.Pat{K: api.PAtom, Var: "a", Type: "buy", L: leaves(1, 0)})))
	ok("a tall condition", where(tallExpr(parts, text("p"))))
	no("a taller condition", where(tallExpr(parts+1, text("p"))))
	no("a taller condition behind others", where(text("a"), text("b"), tallExpr(parts+1, text("p"))))
	no("a taller condition ahead of others", where(tallExpr(parts+1, text("p")), text("a"), text("b")))
	// Conditions together may have more: each is a tree of its own.
	ok("two of half as many", where(wideExpr("a", parts/2), wideExpr("b", parts/2)))
	ok("two of half as many, and one more", where(wideExpr("a", parts/2), wideExpr("b", parts/2), text("c")))
	ok("two of half as many and one", where(wideExpr("a", parts/2+1), wideExpr("b", parts/2)))
	ok("three that are as great as may be", where(wideExpr("a", parts), wideExpr("b", parts), wideExpr("c", parts)))
	no("one more in the last", where(wideExpr("a", parts), wideExpr("b", parts), wideExpr("c", parts+1)))
	no("one more in the first", where(wideExpr("a", parts+1), wideExpr("b", 2)))
	ok("as many of one node", where(longs(parts, 0)...))
	ok("more of one node", where(longs(2*parts, 0)...))
	great := api.Query{P: seq(leaves(nodes-1, 0)...), Where: []api.Expr{wideExpr("a", parts)}, Key: "k", Items: items(40)}
	ok("both as great as may be", great)
	great.Where[0] = wideExpr("a", parts+1)
	no("a greater condition of a great pattern", great)
	great.Where, great.P = nil, seq(leaves(nodes, 0)...)
	no("a greater pattern with Key and items", great)
	great.P = api.Pat{}
	ok("no pattern, many items", great)
}

// P24.2

func TestGetOfNothing(t *testing.T) {
	wantNoGet(t, "nil", nil, 0, api.ErrShort)
	wantNoGet(t, "no bytes", []byte{}, 0, api.ErrShort)
	wantNoPlan(t, "a frame of nothing", nil)
	wantNoPlan(t, "a frame of one byte", []byte{0x51})
	wantNoPlan(t, "a frame of two", []byte{0x51, 1})
}

// frame.Open's errors with their places.
func TestGetOfNoFrame(t *testing.T) {
	b := framed(least())
	spoilt := func(at int) []byte {
		x := bytes.Clone(b)
		x[at] ^= 4
		return x
	}
	for _, x := range []struct {
		what  string
		b     []byte
		place int
		e     api.Errno
	}{
		{"a length alone", b[:1], 1, api.ErrShort},
		{"a frame without its last byte", b[:len(b)-1], len(b) - 1, api.ErrShort},
		{"a frame without its sum", b[:len(b)-4], len(b) - 4, api.ErrShort},
		{"a length that does not end", []byte{0x80}, 1, api.ErrShort},
		{"a length that does not end soon", []byte("\x80\x80\x80"), 3, api.ErrShort},
		{"a length with a byte too many", append([]byte{b[0] | 0x80, 0}, b[1:]...), 1, api.ErrForm},
		{"a length of more than 64 bits", bytes.Repeat([]byte{0xff}, 20), 9, api.ErrForm},
		{"a length above MaxWire", framed(make([]byte, api.MaxWire+1)), 0, api.ErrForm},
		{"the greatest length", append(number(math.MaxUint64), b...), 0, api.ErrForm},
		{"another sum", spoilt(len(b) - 1), 0, api.ErrSum},
		{"another first byte", spoilt(1), 0, api.ErrSum},
		{"another last byte ahead of the sum", spoilt(len(b) - 5), 0, api.ErrSum},
	} {
		wantNoGet(t, x.what, x.b, x.place, x.e)
		if _, place, e := frame.Open(x.b, 0); place != x.place || e != x.e {
			t.Errorf("frame.Open of %s: %d, %d", x.what, place, e)
		}
	}
	wantNoGet(t, "the plan alone", least(), len(least()), api.ErrShort)
}

// wantAsOpened asks for bytes that are no plan, whether they are a frame or not.
func wantAsOpened(t *testing.T, what string, b []byte) {
	t.Helper()
	in, place, e := frame.Open(b, 0)
	if e == api.OK {
		if _, ok := readBy(in); ok && place == len(b) {
			t.Fatalf("%s is a plan", what)
		}
		place, e = 0, api.ErrForm
	}
	wantNoGet(t, what, b, place, e)
}

// some are queries of all kinds, none of them great.
func some() []api.Query {
	var l []api.Query
	for _, x := range byHand() {
		l = append(l, x.q)
	}
	return append(l, all())
}

func TestGetOfEachBeginning(t *testing.T) {
	for _, q := range some() {
		b := framed(written(q))
		for n := range b {
			wantNoGet(t, "a beginning", b[:n], n, api.ErrShort)
		}
		for n := range written(q) {
			wantNoPlan(t, "a beginning in a frame", written(q)[:n])
			wantNoPlan(t, "an end in a frame", written(q)[n+1:])
		}
	}
}

func TestGetOfOneByteMore(t *testing.T) {
	for _, q := range some() {
		in := written(q)
		b := framed(in)
		for c := range 256 {
			wantNoGet(t, "a byte more behind the frame", append(bytes.Clone(b), byte(c)), 0, api.ErrForm)
			wantNoPlan(t, "a byte more at the end", append(bytes.Clone(in), byte(c)))
		}
		wantNoGet(t, "two frames", append(bytes.Clone(b), b...), 0, api.ErrForm)
		wantNoGet(t, "a plan behind an empty frame", append(framed(nil), b...), 0, api.ErrForm)
		for at := range in {
			for _, c := range []byte{0, 1, 2, 3, 0x51, 'a', 0x80, 0xff, in[at]} {
				wantAsModel(t, slices.Insert(bytes.Clone(in), at, c))
			}
			wantAsModel(t, slices.Delete(bytes.Clone(in), at, at+1))
		}
	}
}

func TestGetOfEachByteChanged(t *testing.T) {
	for _, q := range some() {
		in := written(q)
		b := framed(in)
		for at := range b {
			for c := 1; c < 256; c++ {
				x := bytes.Clone(b)
				x[at] ^= byte(c)
				wantAsOpened(t, "a frame with a byte changed", x)
			}
		}
		read := 0
		for at := range in {
			for c := 1; c < 256; c++ {
				x := bytes.Clone(in)
				x[at] ^= byte(c)
				if wantAsModel(t, x) {
					read++
				}
			}
		}
		if read == 0 {
			t.Errorf("no change of %x is a plan, not even that of a name", in)
		}
	}
}

// Bits within 32 side by side that are turned behind the frame's length are found.
func TestGetOfBursts(t *testing.T) {
	r := rand.New(rand.NewSource(242))
	for _, q := range some() {
		b := framed(written(q))
		for range 2000 {
			x := bytes.Clone(b)
			from := 8*len(number(uint64(len(written(q))))) + r.Intn(8*len(b)-8)
			bits := r.Uint64()&math.MaxUint32 | 1
			for i := range 32 {
				if at := from + i; at < 8*len(b) && bits>>i&1 == 1 {
					x[at/8] ^= 1 << (at % 8)
				}
			}
			if !bytes.Equal(x, b) {
				wantNoGet(t, "a burst", x, 0, api.ErrSum)
			}
		}
	}
}

// What is in the frame is nearly least().
func TestGetOfWhatCantBe(t *testing.T) {
	ab := texts{"a", "buy"}
	if b := bytesOf("Q\x01", ab, 1, 0, 1, 0, 0, 0, 0, 0); !bytes.Equal(b, least()) {
		t.Fatalf("%x is not %x", b, least())
	}
	for what, in := range map[string][]byte{
		"another first byte":           bytesOf("R\x01", ab, 1, 0, 1, clauses),
		"no first byte":                bytesOf("\x01", ab, 1, 0, 1, clauses),
		"another second byte":          bytesOf("Q\x02", ab, 1, 0, 1, clauses),
		"a second byte 0":              bytesOf("Q\x00", ab, 1, 0, 1, clauses),
		"both in another order":        bytesOf("\x01Q", ab, 1, 0, 1, clauses),
		"the first byte twice":         bytesOf("QQ\x01", ab, 1, 0, 1, clauses),
		"no second byte":               bytesOf("Q", ab, 1, 0, 1, clauses),
		"an end behind the second":     bytesOf("Q\x01"),
		"no texts":                     bytesOf("Q\x01", texts{}, 1, 0, 1, clauses),
		"one text":                     bytesOf("Q\x01", texts{"a"}, 1, 0, 1, clauses),
		"one text, taken twice":        bytesOf("Q\x01", texts{"a", "a"}, 1, 0, 1, clauses),
		"a text that nothing names":    bytesOf("Q\x01", texts{"a", "buy", "c"}, 1, 0, 1, clauses),
		"such a text ahead":            bytesOf("Q\x01", texts{"c", "a", "buy"}, 1, 1, 2, clauses),
		"such a text between":          bytesOf("Q\x01", texts{"a", "c", "buy"}, 1, 0, 2, clauses),
		"an empty one":                 bytesOf("Q\x01", texts{"a", "buy", ""}, 1, 0, 1, clauses),
		"texts in another order":       bytesOf("Q\x01", texts{"buy", "a"}, 1, 1, 0, clauses),
		"a text twice":                 bytesOf("Q\x01", texts{"a", "buy", "a"}, 1, 0, 1, clauses),
		"a text twice, and both named": bytesOf("Q\x01", texts{"a", "a"}, 1, 0, 1, clauses),
		"a Var's number too great":     bytesOf("Q\x01", ab, 1, 2, 1, clauses),
		"a Type's number too great":    bytesOf("Q\x01", ab, 1, 0, 2, clauses),
		"a number of 2^40":             bytesOf("Q\x01", ab, 1, 0, 1<<40, clauses),
		"a number of 2^32":             bytesOf("Q\x01", ab, 1, 1<<32, 1, clauses),
		"a number of 2^32 and 1":       bytesOf("Q\x01", ab, 1, 0, 1<<32+1, clauses),
		"a number of 2^64 - 1":         bytesOf("Q\x01", ab, 1, 0, number(math.MaxUint64), clauses),
		"a number of 2^64":             bytesOf("Q\x01", ab, 1, 0, "\x80\x80\x80\x80\x80\x80\x80\x80\x80\x02", clauses),
		"a number with a byte more":    bytesOf("Q\x01", ab, 1, "\x80\x00", 1, clauses),
		"another one":                  bytesOf("Q\x01", ab, 1, 0, "\x81\x00", clauses),
		"so many texts, likewise":      bytesOf("Q\x01", "\x82\x00\x01a\x03buy", 1, 0, 1, clauses),
		"a text's length, likewise":    bytesOf("Q\x01", "\x02\x81\x00a\x03buy", 1, 0, 1, clauses),
		"so many conditions, likewise": bytesOf("Q\x01", ab, 1, 0, 1, "\x80\x00", 0, 0, 0, 0),
		"Key, likewise":                bytesOf("Q\x01", ab, 1, 0, 1, 0, "\x80\x00", 0, 0, 0),
		"a window, likewise":           bytesOf("Q\x01", ab, 1, 0, 1, 0, 0, 0, "\x80\x00", 0),
		"so many items, likewise":      bytesOf("Q\x01", ab, 1, 0, 1, 0, 0, 0, 0, "\x80\x00"),
		"a pattern of kind 0":          bytesOf("Q\x01", ab, 0, 0, 1, clauses),
		"a pattern of kind 0 alone":    bytesOf("Q\x01", texts{}, 0, 0, clauses),
		"a pattern of kind 7":          bytesOf("Q\x01", ab, 7, 2, 1, 0, 1, 1, 1, 0, clauses),
		"a pattern of kind 255":        bytesOf("Q\x01", ab, "\xff", 2, 1, 0, 1, 1, 1, 0, clauses),
		"a seq of nothing":             bytesOf("Q\x01", texts{}, 2, 0, clauses),
		"a seq of one":                 bytesOf("Q\x01", ab, 2, 1, 1, 0, 1, clauses),
		"a seq of a seq":               bytesOf("Q\x01", ab, 2, 2, 1, 0, 1, 2, 2, 1, 0, 1, 1, 0, 1, clauses),
		"fewer parts than there are":   bytesOf("Q\x01", ab, 2, 2, 1, 0, 1, 1, 0, 1, 1, 0, 1, clauses),
		"more parts than there are":    bytesOf("Q\x01", ab, 2, 3, 1, 0, 1, 1, 0, 1, clauses),
		"far more parts":               bytesOf("Q\x01", ab, 2, 1<<40, 1, 0, 1, 1, 0, 1, clauses),
		"far too many parts":           bytesOf("Q\x01", ab, 2, number(math.MaxUint64), 1, 0, 1, 1, 0, 1, clauses),
		"a many of 0":                  bytesOf("Q\x01", ab, 5, 0, 1, 0, 0, clauses),
		"a many of just 1":             bytesOf("Q\x01", ab, 5, 0, 1, 1, 1, clauses),
		"a many of 3 to 2":             bytesOf("Q\x01", ab, 5, 0, 1, 3, 2, clauses),
		"a many of 1001":               bytesOf("Q\x01", ab, 5, 0, 1, 1001, 0, clauses),
		"a many of up to 1001":         bytesOf("Q\x01", ab, 5, 0, 1, 1, 1001, clauses),
		"a many of 2^32 and 1":         bytesOf("Q\x01", ab, 5, 0, 1, 1<<32+1, 0, clauses),
		"a many of 2^64 - 1":           bytesOf("Q\x01", ab, 5, 0, 1, 1, number(math.MaxUint64), clauses),
		"a many without Hi":            bytesOf("Q\x01", ab, 5, 0, 1, 1, clauses),
		"an atom with parts":           bytesOf("Q\x01", ab, 1, 0, 1, 0, clauses),
		"a Var that is no name":        bytesOf("Q\x01", texts{"A", "buy"}, 1, 0, 1, clauses),
		"an empty Var":                 bytesOf("Q\x01", texts{"", "buy"}, 1, 0, 1, clauses),
		"an empty Type":                bytesOf("Q\x01", texts{"a", ""}, 1, 0, 1, clauses),
		"a Type that is too long":      bytesOf("Q\x01", texts{"a", name + "n"}, 1, 0, 1, clauses),
		"a text that is too long":      bytesOf("Q\x01", texts{"a", full + "t"}, 1, 0, 1, clauses),
		"a text that is too short":     bytesOf("Q\x01", "\x02\x01a\x04buy", 1, 0, 1, clauses),
		"too many texts":               bytesOf("Q\x01", 4097, bytes.Repeat([]byte{1, 'a'}, 4097), 1, 0, 1, clauses),
		"one condition, not there":     bytesOf("Q\x01", ab, 1, 0, 1, 1, 0, 0, 0, 0),
		"no conditions, one there":     bytesOf("Q\x01", ab, 1, 0, 1, 0, "\x01\x00", 0, 0, 0, 0),
		"far more conditions":          bytesOf("Q\x01", ab, 1, 0, 1, 1<<40, "\x01\x00", 0, 0, 0, 0),
		"17 conditions":                bytesOf("Q\x01", ab, 1, 0, 1, 17, bytes.Repeat([]byte("\x01\x00"), 17), 0, 0, 0, 0),
		"a Key that is no text":        bytesOf("Q\x01", ab, 1, 0, 1, 0, 3, 0, 0, 0),
		"a Key that is no name":        bytesOf("Q\x01", texts{"a", "buy", "K"}, 1, 0, 1, 0, 3, 0, 0, 0),
		"a Key of the empty text":      bytesOf("Q\x01", texts{"a", "buy", ""}, 1, 0, 1, 0, 3, 0, 0, 0),
		"a Key of 2^40":                bytesOf("Q\x01", ab, 1, 0, 1, 0, 1<<40, 0, 0, 0),
		"a Key of 2^32":                bytesOf("Q\x01", ab, 1, 0, 1, 0, 1<<32, 0, 0, 0),
		"a Key of 2^64 - 1":            bytesOf("Q\x01", ab, 1, 0, 1, 0, number(math.MaxUint64), 0, 0, 0),
		"Mode 3":                       bytesOf("Q\x01", ab, 1, 0, 1, 0, 0, 3, 0, 0),
		"Mode 255":                     bytesOf("Q\x01", ab, 1, 0, 1, 0, 0, "\xff", 0, 0),
		"a window of 2^40 and 1":       bytesOf("Q\x01", ab, 1, 0, 1, 0, 0, 0, 1<<40+1, 0),
		"a window of 2^63":             bytesOf("Q\x01", ab, 1, 0, 1, 0, 0, 0, number(1<<63), 0),
		"a window of 2^64 - 1":         bytesOf("Q\x01", ab, 1, 0, 1, 0, 0, 0, number(math.MaxUint64), 0),
		"one item, not there":          bytesOf("Q\x01", ab, 1, 0, 1, 0, 0, 0, 0, 1),
		"no items, one there":          bytesOf("Q\x01", ab, 1, 0, 1, 0, 0, 0, 0, 0, 0, 3, 0, 0),
		"far more items":               bytesOf("Q\x01", ab, 1, 0, 1, 0, 0, 0, 0, 1<<40, 0, 3, 0, 0),
		"17 items":                     bytesOf("Q\x01", ab, 1, 0, 1, 0, 0, 0, 0, 17, bytes.Repeat([]byte("\x00\x03\x00\x00"), 17)),
		"an item of kind 0":            bytesOf("Q\x01", ab, 1, 0, 1, 0, 0, 0, 0, 1, 0, 0, 0, 1),
		"an item of kind 5":            bytesOf("Q\x01", ab, 1, 0, 1, 0, 0, 0, 0, 1, 0, 5, 0, 1),
		"an item without a Field":      bytesOf("Q\x01", ab, 1, 0, 1, 0, 0, 0, 0, 1, 0, 1, 0, 0),
		"a count with a Field":         bytesOf("Q\x01", ab, 1, 0, 1, 0, 0, 0, 0, 1, 0, 3, 0, 1),
		"an item's Name that is none":  bytesOf("Q\x01", ab, 1, 0, 1, 0, 0, 0, 0, 1, 2, 1, 0, 1),
		"an item's Var that is none":   bytesOf("Q\x01", ab, 1, 0, 1, 0, 0, 0, 0, 1, 0, 1, 2, 1),
		"an item's Field that is none": bytesOf("Q\x01", ab, 1, 0, 1, 0, 0, 0, 0, 1, 0, 1, 0, 3),
		"two items of one Name":        bytesOf("Q\x01", ab, 1, 0, 1, 0, 0, 0, 0, 2, 0, 3, 0, 0, 0, 1, 0, 1),
		"a byte more":                  append(least(), 0),
		"a byte less":                  least()[:len(least())-1],
		"a frame in the frame":         framed(least()),
	} {
		wantNoPlan(t, what, in)
	}
	for what, in := range map[string][]byte{ // and what it is near to
		"a count":        bytesOf("Q\x01", ab, 1, 0, 1, 0, 0, 0, 0, 1, 0, 3, 0, 0),
		"a first":        bytesOf("Q\x01", ab, 1, 0, 1, 0, 0, 0, 0, 1, 0, 1, 0, 1),
		"16 conditions":  bytesOf("Q\x01", ab, 1, 0, 1, 16, bytes.Repeat([]byte("\x01\x00"), 16), 0, 0, 0, 0),
		"a seq":          bytesOf("Q\x01", ab, 2, 2, 1, 0, 1, 1, 0, 1, clauses),
		"a Key":          bytesOf("Q\x01", texts{"a", "buy", "k"}, 1, 0, 1, 0, 3, 0, 0, 0),
		"Mode 2":         bytesOf("Q\x01", ab, 1, 0, 1, 0, 0, 2, 0, 0),
		"a window":       bytesOf("Q\x01", ab, 1, 0, 1, 0, 0, 0, 1<<40, 0),
		"a many":         bytesOf("Q\x01", ab, 5, 0, 1, 1, 1000, clauses),
		"a long Type":    bytesOf("Q\x01", texts{"a", name}, 1, 0, 1, clauses),
		"a long text":    bytesOf("Q\x01", texts{"a", "buy", full}, 1, 0, 1, 1, "\x01\x03\x02", 0, 0, 0, 0),
		"a text of none": bytesOf("Q\x01", texts{"a", "buy", ""}, 1, 0, 1, 1, "\x01\x03\x02", 0, 0, 0, 0),
	} {
		if !wantAsModel(t, in) {
			t.Errorf("%s is no plan: %x", what, in)
		}
	}
}

func TestGetOfConditionsThatCantBe(t *testing.T) {
	in := func(l texts, parts ...any) []byte {
		return bytesOf("Q\x01", append(texts{"a", "buy"}, l...), 1, 0, 1, 1, bytesOf(parts...), 0, 0, 0, 0)
	}
	x := "\x01\x00" // null
	for k := range 256 {
		for n := range 5 {
			for _, b := range [][]byte{in(nil, []byte{byte(k)}, strings.Repeat(x, n)), in(nil, []byte{byte(k), byte(n)}, strings.Repeat(x, n)), in(nil, []byte{byte(k), byte(n)}, strings.Repeat(x, 2)), in(nil, "\x0f", []byte{byte(k), byte(n)}, strings.Repeat(x, 3))} {
				wantAsModel(t, b)
			}
			wantAsModel(t, in(nil, "\x01", []byte{byte(k), byte(n)}))
		}
		wantAsModel(t, in(nil, "\x01", []byte{byte(k)}))
	}
	for what, b := range map[string][]byte{
		"kind 0":                    in(nil, "\x00"),
		"kind 18":                   in(nil, "\x12", x, x),
		"kind 255":                  in(nil, "\xff", x, x),
		"kind 0 of two parts":       in(nil, "\x00", x, x),
		"a value of kind 4":         in(nil, "\x01\x04"),
		"a value of kind 255":       in(nil, "\x01\xff"),
		"a bool of 2":               in(nil, "\x01\x01\x02"),
		"a bool of 255":             in(nil, "\x01\x01\xff"),
		"a bool of none":            in(nil, "\x01\x01"),
		"a number with a byte more": in(nil, "\x01\x02\x80\x00"),
		"a number of 65 bits":       in(nil, "\x01\x02\xff\xff\xff\xff\xff\xff\xff\xff\xff\x03"),
		"a text that is none":       in(nil, "\x01\x03\x02"),
		"a text of 2^40":            in(nil, "\x01\x03", 1<<40),
		"texts in another order":    in(texts{"p", "q"}, "\x11\x02\x01\x03\x03\x01\x03\x02"),
		"a field of no Var":         in(nil, "\x02\x02\x01"),
		"a field of no Field":       in(nil, "\x02\x01\x02"),
		"a field of an empty Var":   in(texts{""}, "\x02\x02\x01"),
		"a Field that is no name":   in(texts{"X"}, "\x02\x01\x02"),
		"an and":                    in(nil, "\x10\x02", x, x),
		"an or of one":              in(nil, "\x11\x01", x),
		"an or of none":             in(nil, "\x11\x00"),
		"an or of an or":            in(nil, "\x11\x02\x11\x02", x, x, x),
		"an or of more than are":    in(nil, "\x11\x04", x, x, x),
		"an or of fewer":            in(nil, "\x11\x02", x, x, x),
		"an or of far more":         in(nil, "\x11", 1<<40, x, x, x),
		"an or of 2^64 - 1":         in(nil, "\x11", number(math.MaxUint64), x, x),
		"a not of two":              in(nil, "\x0f", x, x),
		"a sum of one":              in(nil, "\x04", x),
		"a sum of three":            in(nil, "\x04", x, x, x),
		"a not of a count":          in(nil, "\x0f", 1, "\x03", x),
	} {
		wantNoPlan(t, what, b)
	}
	for what, b := range map[string][]byte{
		"null":    in(nil, x),
		"a not":   in(nil, "\x0f", x),
		"a sum":   in(nil, "\x04", x, x),
		"an or":   in(nil, "\x11\x03", x, x, x),
		"texts":   in(texts{"p", "q"}, "\x11\x02\x01\x03\x02\x01\x03\x03"),
		"a field": in(texts{"x"}, "\x02\x00\x02"),
		"a bool":  in(nil, "\x01\x01\x01"),
	} {
		if !wantAsModel(t, b) {
			t.Errorf("%s is no plan: %x", what, b)
		}
	}
}

// Deeper and greater than query.Check lets be: the bytes can be read, but Put does not make them.
func TestGetOfTooMuch(t *testing.T) {
	for deep := 1; deep < 20; deep++ {
		if ok := wantAsModel(t, written(of(chain(deep)))); ok != (deep <= api.MaxDeep) {
			t.Errorf("a pattern of %d nodes on a way: %v", deep, ok)
		}
	}
	for n := 2; n < 200; n++ {
		if ok := wantAsModel(t, written(of(seq(leaves(n, 0)...)))); ok != (n < api.MaxNodes) {
			t.Errorf("a seq of %d: %v", n, ok)
		}
		if ok := wantAsModel(t, written(where(op(api.XOr, longs(n, 3)...)))); ok != (n < api.MaxExpr-1) {
			t.Errorf("an or of %d: %v", n, ok)
		}
		if ok := wantAsModel(t, written(where(tallExpr(n, text("p"))))); ok != (n < api.MaxExpr) {
			t.Errorf("a condition of %d nodes on a way: %v", n, ok)
		}
		if ok := wantAsModel(t, written(where(op(api.XOr, longs(49, 1)...), op(api.XOr, longs(n, 2)...)))); ok != (n <= 48) {
			t.Errorf("ors of 49 and of %d: %v", n, ok)
		}
		if ok := wantAsModel(t, written(where(longs(n, 1)...))); ok != (n <= api.MaxWhere) {
			t.Errorf("%d conditions: %v", n, ok)
		}
		if ok := wantAsModel(t, written(api.Query{P: atom("a", "buy"), Items: items(n)})); ok != (n <= api.MaxItems) {
			t.Errorf("%d items: %v", n, ok)
		}
	}
	for what, x := range refused() {
		if in := written(x.q); wantAsModel(t, in) { // a byte of a kind, or of a Mode, may be that of another one
			if q, _ := readBy(in); query.Same(q, x.q) {
				t.Errorf("%s is a plan", what)
			}
		}
	}
}

// Frames of just MaxWire bytes, which are open, and as deep, as wide and as long as bytes can tell.
func TestGetOfGreatFrames(t *testing.T) {
	fill := func(ahead []byte, s string) []byte {
		b := append(ahead, strings.Repeat(s, api.MaxWire/len(s))...)
		return b[:api.MaxWire]
	}
	ab := bytesOf("Q\x01", texts{"a", "buy"})
	open := append(bytes.Clone(ab), 1, 0, 1)
	for what, in := range map[string][]byte{
		"zeros":                   fill(nil, "\x00"),
		"first bytes":             fill(nil, "Q\x01"),
		"a plan again and again":  fill(nil, string(least())),
		"a plan and zeros":        fill(least(), "\x00"),
		"texts":                   fill(bytesOf("Q\x01", 4096), "\x0f0123456789abcde"),
		"empty texts":             fill(bytesOf("Q\x01", 4096), "\x00"),
		"seqs of one":             fill(bytes.Clone(ab), "\x02\x01"),
		"seqs of many":            fill(bytes.Clone(ab), "\x02\x7f"),
		"seqs and ands":           fill(bytes.Clone(ab), "\x02\x02\x01\x00\x01\x03\x02\x01\x00\x01"),
		"patterns of no kind":     fill(bytes.Clone(ab), "\x00\x01"),
		"patterns of kind 255":    fill(bytes.Clone(ab), "\xff\x7f"),
		"a wide seq":              fill(append(bytes.Clone(ab), 2, 0xff, 0x7f), "\x01\x00\x01"),
		"far too wide a seq":      fill(append(bytes.Clone(ab), "\x02\x80\x80\x80\x80\x80\x20"...), "\x01\x00\x01"),
		"negations":               fill(append(bytes.Clone(open), 1), "\x03"),
		"nots and negations":      fill(append(bytes.Clone(open), 1), "\x0f\x03"),
		"sums":                    fill(append(bytes.Clone(open), 1), "\x04"),
		"sums of null":            fill(append(bytes.Clone(open), 1), "\x04\x01\x00"),
		"ors and ands":            fill(append(bytes.Clone(open), 1), "\x11\x02\x10\x02"),
		"conditions of kind 0":    fill(append(bytes.Clone(open), 1), "\x00"),
		"conditions of kind 255":  fill(append(bytes.Clone(open), 1), "\xff"),
		"many conditions":         fill(append(bytes.Clone(open), 0xff, 0x7f), "\x01\x00"),
		"far too many conditions": fill(append(bytes.Clone(open), "\x80\x80\x80\x80\x80\x20"...), "\x01\x00"),
		"many items":              fill(append(bytes.Clone(open), 0, 0, 0, 0, 0xff, 0x3f), "\x00\x03\x00\x00"),
	} {
		b, e := frame.Wrap(in)
		if e != api.OK {
			t.Fatalf("Wrap of %s: %d", what, e)
		}
		wantNoGet(t, what, b, 0, api.ErrForm)
		wantNoGet(t, what+" and a byte more behind", append(b, 0), 0, api.ErrForm)
		wantNoGet(t, what+" and a byte more", framed(append(in, 0)), 0, api.ErrForm)
	}
	in := slices.Concat(written(greatest()), make([]byte, api.MaxWire-len(written(greatest()))))
	wantNoGet(t, "the greatest plan and zeros", framed(in), 0, api.ErrForm)
}

// Two conditions, parts, items that have changed places, and all texts by other numbers.
func TestGetOfTextsInEachOrder(t *testing.T) {
	l := texts{"a", "buy", "x", "k", "n"}
	q := api.Query{P: atom("a", "buy"), Where: []api.Expr{field("a", "x")}, Key: "k", Items: []api.Item{item("n", api.ILast, "a", "x")}}
	plans := 0
	var turn func(left, got []int)
	turn = func(left, got []int) {
		if len(left) > 0 {
			for i, n := range left {
				turn(slices.Delete(slices.Clone(left), i, i+1), append(slices.Clone(got), n))
			}
			return
		}
		turned := make(texts, len(l))
		for i, n := range got {
			turned[n] = l[i]
		}
		in := bytesOf("Q\x01", turned, 1, got[0], got[1], 1, 2, got[0], got[2], got[3]+1, 0, 0, 1, got[4], 2, got[0], got[2]+1)
		if wantAsModel(t, in) {
			plans++
			if !bytes.Equal(in, written(q)) {
				t.Errorf("%v is a plan", got)
			}
		}
	}
	turn([]int{0, 1, 2, 3, 4}, nil)
	if plans != 1 {
		t.Errorf("%d plans", plans)
	}
}

// All short bytes of a few behind the first two.
func TestGetOfAllShortBytes(t *testing.T) {
	read := 0
	for n := range 7 {
		for i := range 1 << (3 * n) {
			in := []byte("Q\x01")
			for range n {
				in = append(in, []byte{0, 1, 2, 3, 5, 6, 'a', 0x80}[i%8])
				i /= 8
			}
			wantNoPlan(t, "few bytes", in)
		}
	}
	for i := range 1 << 18 { // behind one text, of most a part and its names are there
		in := []byte("Q\x01\x01\x01a")
		for range 6 {
			in = append(in, []byte{0, 1, 2, 3, 4, 5, 6, 0x80}[i%8])
			i /= 8
		}
		for _, end := range []string{"", "\x00", "\x00\x00", "\x00\x00\x00\x00"} {
			if wantAsModel(t, append(bytes.Clone(in), end...)) {
				read++
			}
		}
	}
	if read == 0 {
		t.Error("none is a plan")
	}
}

// P24.3

func TestGetUndoesPut(t *testing.T) {
	for _, q := range some() {
		wantPut(t, "some", q)
	}
	for deep := range api.MaxDeep {
		wantPut(t, "a deep pattern", of(chain(deep+1)))
	}
	for n := 2; n < api.MaxNodes; n++ {
		for _, k := range []int{api.PSeq, api.PAnd, api.POr} {
			wantPut(t, "a wide pattern", of(row(k, leaves(n, 0)...)))
		}
	}
	for n := 1; n < api.MaxExpr; n++ {
		wantPut(t, "a deep condition", where(tallExpr(n, field("a", "x"))))
		if n > 2 {
			wantPut(t, "a wide condition", where(wideExpr("s", n)))
		}
	}
	wantPut(t, "the greatest", greatest())
}

func pick[T any](r *rand.Rand, l ...T) T { return l[r.Intn(len(l))] }

// someName is one of few, or of many.
func someName(r *rand.Rand) string {
	switch r.Intn(8) {
	case 0:
		return long("n", r.Intn(100), r.Intn(api.MaxName+1))
	case 1:
		return fmt.Sprint("v", r.Intn(300))
	}
	return pick(r, "a", "b", "c", "x", "y", "k", "buy", "sell", "n", "m")
}

// somePat is a right pattern that is no row of kind but, of at most n nodes, deep on a way.
func somePat(r *rand.Rand, n, deep, but int) api.Pat {
	k := 1 + r.Intn(6)
	if n < 3 || deep < 2 || k == but {
		k = pick(r, api.PAtom, api.PMany, api.PNot)
	}
	switch k {
	case api.PAtom, api.PNot:
		return api.Pat{K: k, Var: someName(r), Type: someName(r)}
	case api.PMany:
		lo := 1 + r.Intn(pick(r, 2, 200, api.MaxMany))
		return many(someName(r), someName(r), lo, pick(r, 0, max(lo, 2), max(2, lo+r.Intn(api.MaxMany-lo+1)), api.MaxMany))
	}
	p := row(k)
	n--
	for n > 0 && (len(p.L) < 2 || r.Intn(5) > 0) {
		x := somePat(r, n-max(0, 1-len(p.L)), deep-1, k)
		n -= pat.Size(x)
		p.L = append(p.L, x)
	}
	return p
}

// someExpr is a right condition that is of kind but only if that is no row, of at most n nodes.
func someExpr(r *rand.Rand, n, but int) api.Expr {
	k := 1 + r.Intn(17)
	if n < 3 || k == but {
		k = 1 + r.Intn(2)
	}
	parts := 2
	switch {
	case k == api.XConst:
		return pick(r, constant(api.VNull, 0, ""), constant(api.VBool, int64(r.Intn(2)), ""), whole(pick(r, wholes...)), whole(int64(r.Uint64())>>r.Intn(64)), text(pick(r, odd...)), text(someName(r)))
	case k == api.XField:
		return field(someName(r), someName(r))
	case k == api.XNeg || k == api.XNot:
		parts = 1
	case k == api.XAnd || k == api.XOr:
		but, parts = k, 2+r.Intn(min(6, n-2))
	default:
		but = 0
	}
	x := op(k)
	for i := range parts {
		y := someExpr(r, (n-1-expr.Size(x)+1)/(parts-i), but)
		x.L = append(x.L, y)
	}
	return x
}

// right is a query that query.Check lets be.
func right(r *rand.Rand) api.Query {
	q := of(somePat(r, 1+r.Intn(api.MaxNodes), 1+r.Intn(api.MaxDeep), 0))
	left := r.Intn(api.MaxExpr)
	for range r.Intn(api.MaxWhere + 1) {
		if left > 0 {
			x := someExpr(r, 1+r.Intn(left), api.XAnd)
			left -= expr.Size(x)
			q.Where = append(q.Where, x)
		}
	}
	if r.Intn(2) == 0 {
		q.Key = someName(r)
	}
	q.Mode = r.Intn(3)
	q.Within = pick(r, 0, 1, 300, api.MaxWithin, r.Int63n(api.MaxWithin))
	for i := range r.Intn(api.MaxItems + 1) {
		x := item(pick(r, "a", "n", "x")+fmt.Sprint(i), 1+r.Intn(4), someName(r), someName(r))
		if x.K == api.ICount {
			x.Field = ""
		}
		q.Items = append(q.Items, x)
	}
	return q
}

func TestAtRandom(t *testing.T) {
	r := rand.New(rand.NewSource(24))
	for range 4000 {
		q := right(r)
		if e := query.Check(q); e != api.OK {
			t.Fatalf("%s is refused: %d", said(q), e)
		}
		b := wantPut(t, "a query at random", q)
		in, _, _ := frame.Open(b, 0)
		for range 20 {
			x := bytes.Clone(in)
			for range 1 + r.Intn(3) {
				at := r.Intn(len(x))
				switch r.Intn(4) {
				case 0:
					x = slices.Delete(x, at, min(len(x), at+1+r.Intn(2)))
				case 1:
					x = slices.Insert(x, at, byte(r.Intn(20)))
				case 2:
					x[at] += byte(1 - 2*r.Intn(2))
				default:
					x[at] = byte(r.Intn(256))
				}
				if len(x) == 0 {
					break
				}
			}
			wantAsModel(t, x)
		}
	}
}

// wild may be anything: nearly none of these is right.
func wild(r *rand.Rand) api.Query {
	s := func() string { return pick(r, "", "a", "b", "buy", "A", full+"t", "\xff", someName(r)) }
	n := func() int { return pick(r, -1, 0, 1, 2, 3, 5, 6, 1000, 1001, math.MaxInt, math.MinInt, r.Intn(20)) }
	var p func(deep int) api.Pat
	p = func(deep int) api.Pat {
		x := api.Pat{K: pick(r, r.Intn(8), n()), Var: s(), Type: s(), Lo: n(), Hi: n()}
		for range r.Intn(deep + 1) {
			x.L = append(x.L, p(deep-1))
		}
		return x
	}
	var c func(deep int) api.Expr
	c = func(deep int) api.Expr {
		x := api.Expr{K: pick(r, r.Intn(19), 1, 2, n()), V: api.Value{K: pick(r, 3, n()), N: int64(n()), S: s()}, Var: s(), Field: s()}
		for range r.Intn(deep + 1) {
			x.L = append(x.L, c(deep-1))
		}
		return x
	}
	q := api.Query{P: p(r.Intn(5)), Key: s(), Mode: n(), Within: int64(n())}
	for range r.Intn(4) {
		q.Where = append(q.Where, c(r.Intn(5)))
	}
	for range r.Intn(4) {
		q.Items = append(q.Items, item(s(), n(), s(), s()))
	}
	return q
}

func TestOfAnything(t *testing.T) {
	r := rand.New(rand.NewSource(241))
	for range 20000 {
		q := wild(r)
		kept := copied(q)
		if pat.Size(q.P) <= 4*api.MaxNodes {
			wantTexts(t, said(q), q, textsOf(thingsOf(q))...)
		}
		if e := query.Check(q); e != api.OK {
			wantNoPut(t, said(q), q, e)
		}
		if !query.Same(q, kept) {
			t.Fatalf("%s became %s", said(kept), said(q))
		}
	}
}

// P4: what is handed in is neither changed nor kept.

// within tells whether the bytes of s lie in the memory that begins at from.
func within(s string, from *byte, size int) bool {
	at, begin := uintptr(unsafe.Pointer(unsafe.StringData(s))), uintptr(unsafe.Pointer(from))
	return s != "" && begin <= at && at < begin+uintptr(size)
}

// pieces is all(), but each of its texts lies in one memory.
func pieces() (api.Query, []byte) {
	q := all()
	l := []*string{&q.Key}
	var inPat func(p *api.Pat)
	inPat = func(p *api.Pat) {
		l = append(l, &p.Var, &p.Type)
		for i := range p.L {
			inPat(&p.L[i])
		}
	}
	inPat(&q.P)
	var inExprs func(xs []api.Expr)
	inExprs = func(xs []api.Expr) {
		for i := range xs {
			l = append(l, &xs[i].Var, &xs[i].Field, &xs[i].V.S)
			inExprs(xs[i].L)
		}
	}
	inExprs(q.Where)
	for i := range q.Items {
		l = append(l, &q.Items[i].Name, &q.Items[i].Var, &q.Items[i].Field)
	}
	var b []byte
	for _, s := range l {
		b = append(b, *s...)
	}
	at := 0
	for _, s := range l {
		n := len(*s)
		if n > 0 {
			*s = unsafe.String(&b[at], n)
		}
		at += n
	}
	return q, b
}

func TestTextsAreNotKept(t *testing.T) {
	q, b := pieces()
	kept := bytes.Clone(b)
	if !within(q.P.L[1].Type, &b[0], len(b)) {
		t.Fatal("a piece is not found in its memory")
	}
	l, want := plan.Texts(q), plan.Texts(all())
	made, e := plan.Put(q)
	if e != api.OK || !bytes.Equal(made, framed(written(all()))) || !bytes.Equal(b, kept) {
		t.Fatalf("Put: %d, %x", e, made)
	}
	for _, s := range l {
		if within(s, &b[0], len(b)) {
			t.Errorf("%q lies in the memory of what was handed in", s)
		}
	}
	clear(b)
	if !slices.Equal(l, want) || !bytes.Equal(made, framed(written(all()))) {
		t.Errorf("%q and %x hang on what was handed in", l, made)
	}
}

func TestBytesAreNotKept(t *testing.T) {
	b := append(framed(written(all())), "more"...)[:len(framed(written(all())))]
	kept := bytes.Clone(b[:cap(b)])
	q, _, e := plan.Get(b)
	if e != api.OK || !bytes.Equal(b[:cap(b)], kept) {
		t.Fatalf("Get: %d; what was handed in became %x", e, b[:cap(b)])
	}
	clear(b[:cap(b)])
	if !query.Same(q, all()) {
		t.Errorf("%s hangs on what was handed in", said(q))
	}
	made, _ := plan.Put(q)
	again, _ := plan.Put(q)
	clear(made)
	if !bytes.Equal(again, kept[:len(again)]) || !query.Same(q, all()) {
		t.Errorf("what Put made of one query hangs together")
	}
	l, other := plan.Texts(q), plan.Texts(q)
	clear(l)
	if !slices.Equal(other, textsOf(thingsOf(q))) || !query.Same(q, all()) {
		t.Errorf("what Texts made of one query hangs together")
	}
}

// roomy has room behind each of its lists, in which something stands.
func roomy(q api.Query) api.Query {
	q = copied(q)
	var inPat func(p *api.Pat)
	inPat = func(p *api.Pat) {
		for i := range p.L {
			inPat(&p.L[i])
		}
		p.L = append(p.L, atom("room", "behind"))[:len(p.L)]
	}
	inPat(&q.P)
	var inExprs func(l []api.Expr) []api.Expr
	inExprs = func(l []api.Expr) []api.Expr {
		for i := range l {
			l[i].L = inExprs(l[i].L)
		}
		return append(l, text("room"))[:len(l)]
	}
	q.Where = inExprs(q.Where)
	q.Items = append(q.Items, item("room", 1, "room", "room"))[:len(q.Items)]
	return q
}

// roomIsLeft tells whether what stands behind the lists of roomy still does.
func roomIsLeft(q api.Query) bool {
	var pats func(l []api.Pat) bool
	pats = func(l []api.Pat) bool {
		return pat.Same(l[:len(l)+1][len(l)], atom("room", "behind")) && !slices.ContainsFunc(l, func(p api.Pat) bool { return !pats(p.L) })
	}
	var exprs func(l []api.Expr) bool
	exprs = func(l []api.Expr) bool {
		return expr.Same(l[:len(l)+1][len(l)], text("room")) && !slices.ContainsFunc(l, func(x api.Expr) bool { return !exprs(x.L) })
	}
	return pats(q.P.L) && exprs(q.Where) && q.Items[:len(q.Items)+1][len(q.Items)] == item("room", 1, "room", "room")
}

func TestWhatIsHandedIn(t *testing.T) {
	r := rand.New(rand.NewSource(244))
	l := append(some(), greatest(), api.Query{}, open())
	for range 300 {
		l = append(l, right(r), wild(r))
	}
	for _, q := range l {
		x := roomy(q)
		plan.Texts(x)
		plan.Put(x)
		if !query.Same(x, q) || !roomIsLeft(x) {
			t.Fatalf("%s became %s", said(q), said(x))
		}
	}
}

// lists has each list of q, whole: with the room behind it.
func lists(q api.Query) (pats [][]api.Pat, exprs [][]api.Expr) {
	var inPat func(l []api.Pat)
	inPat = func(l []api.Pat) {
		if l = l[:cap(l)]; len(l) > 0 {
			pats = append(pats, l)
		}
		for _, p := range l {
			inPat(p.L)
		}
	}
	inPat(q.P.L)
	var inExpr func(l []api.Expr)
	inExpr = func(l []api.Expr) {
		if l = l[:cap(l)]; len(l) > 0 {
			exprs = append(exprs, l)
		}
		for _, x := range l {
			inExpr(x.L)
		}
	}
	inExpr(q.Where)
	return pats, exprs
}

// apart tells whether no two of l share memory.
func apart[T any](l [][]T) bool {
	for i, a := range l {
		for _, b := range l[:i] {
			from, to := uintptr(unsafe.Pointer(&a[0])), uintptr(unsafe.Pointer(&a[len(a)-1]))
			if at, end := uintptr(unsafe.Pointer(&b[0])), uintptr(unsafe.Pointer(&b[len(b)-1])); at <= to && from <= end {
				return false
			}
		}
	}
	return true
}

func TestListsAreApart(t *testing.T) {
	r := rand.New(rand.NewSource(245))
	l := append(some(), greatest())
	for range 300 {
		l = append(l, right(r))
	}
	for _, q := range l {
		b, _ := plan.Put(q)
		x, _, _ := plan.Get(b)
		y, _, _ := plan.Get(b)
		pats, exprs := lists(x)
		more, moreExprs := lists(y)
		if !apart(append(pats, more...)) || !apart(append(exprs, moreExprs...)) {
			t.Fatalf("lists of %s share memory", said(q))
		}
		if len(x.Items) > 0 && &x.Items[0] == &y.Items[0] {
			t.Fatalf("two answers of %s share items", said(q))
		}
		for _, l := range pats {
			clear(l)
		}
		for _, l := range exprs {
			clear(l)
		}
		clear(x.Items)
		if !query.Same(y, q) {
			t.Fatalf("two answers of %s hang together", said(q))
		}
	}
}

// P3: nil and empty lists are the same.
func TestNilAndEmpty(t *testing.T) {
	q := api.Query{
		P:     api.Pat{K: api.PAtom, Var: "a", Type: "buy", L: []api.Pat{}},
		Where: []api.Expr{{K: api.XConst, L: []api.Expr{}}},
		Items: []api.Item{},
	}
	wantPut(t, "empty lists", q)
	if _, e := plan.Put(api.Query{P: row(api.PSeq), Where: []api.Expr{}, Items: []api.Item{}}); e != api.ErrArg {
		t.Errorf("Put of an empty seq: %d", e)
	}
	wantTexts(t, "empty lists alone", api.Query{P: api.Pat{L: []api.Pat{}}, Where: []api.Expr{}, Items: []api.Item{}})
}

// P5: the same calls, the same answers.
func TestSameCallsSameAnswers(t *testing.T) {
	for range 50 {
		for _, q := range some() {
			wantPut(t, "some", q)
		}
	}
}

// Whatever the bytes are: Get answers as frame.Open and the model.
func FuzzGet(f *testing.F) {
	f.Add([]byte{})
	f.Add(framed(least()))
	f.Add(framed(written(all())))
	f.Add(append(framed(least()), 0))
	f.Fuzz(func(t *testing.T, b []byte) {
		in, place, e := frame.Open(b, 0)
		switch {
		case e != api.OK:
			wantNoGet(t, "no frame", b, place, e)
		case place < len(b):
			wantNoGet(t, "a frame and more", b, 0, api.ErrForm)
		default:
			wantAsModel(t, in)
		}
	})
}

// Whatever the bytes in the frame are: Get answers as the model, and Put makes them again.
func FuzzPlan(f *testing.F) {
	for _, q := range some() {
		f.Add(written(q))
	}
	f.Fuzz(func(t *testing.T, in []byte) {
		if len(in) <= api.MaxWire {
			wantAsModel(t, in)
		}
	})
}
