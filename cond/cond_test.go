package cond_test

import (
	"fmt"
	"math"
	"math/rand"
	"slices"
	"strconv"
	"strings"
	"testing"

	"haruspex/api"
	"haruspex/cond"
	"haruspex/expr"
	"haruspex/lex"
)

const mostOpen = 2 * api.MaxExpr

// Conditions, by their kinds.
func fixed(v api.Value) api.Expr { return api.Expr{K: api.XConst, V: v} }

func num(n int64) api.Expr { return fixed(api.Value{K: api.VInt, N: n}) }

func text(s string) api.Expr { return fixed(api.Value{K: api.VText, S: s}) }

func truth(n int64) api.Expr { return fixed(api.Value{K: api.VBool, N: n}) }

func null() api.Expr { return fixed(api.Value{}) }

func field(v, f string) api.Expr { return api.Expr{K: api.XField, Var: v, Field: f} }

func op(k int, l ...api.Expr) api.Expr { return api.Expr{K: k, L: l} }

func neg(x api.Expr) api.Expr { return op(api.XNeg, x) }

func not(x api.Expr) api.Expr { return op(api.XNot, x) }

func and(l ...api.Expr) api.Expr { return op(api.XAnd, l...) }

func or(l ...api.Expr) api.Expr { return op(api.XOr, l...) }

// The fields that texts here speak of.
var ax, bx, cx = field("a", "x"), field("b", "x"), field("c", "x")

// signs are those of two parts.
func signs() map[int]string {
	return map[int]string{
		api.XAdd: "+", api.XSub: "-", api.XMul: "*", api.XDiv: "/", api.XMod: "%",
		api.XEq: "=", api.XNe: "<>", api.XLt: "<", api.XLe: "<=", api.XGt: ">", api.XGe: ">=",
		api.XAnd: "AND", api.XOr: "OR",
	}
}

// levelOf counts the chapter's grammar, from the loosest on: OR, AND, NOT, comparisons, sums, products, - and what is last.
func levelOf(x api.Expr) int {
	switch {
	case x.K == api.XOr:
		return 0
	case x.K == api.XAnd:
		return 1
	case x.K == api.XNot:
		return 2
	case api.XEq <= x.K && x.K <= api.XGe:
		return 3
	case x.K == api.XAdd || x.K == api.XSub:
		return 4
	case x.K == api.XMul || x.K == api.XDiv || x.K == api.XMod:
		return 5
	case x.K == api.XNeg || x.K == api.XConst && x.V.K == api.VInt && x.V.N < 0:
		return 6
	}
	return 7
}

// asked is the level that a condition asks of its part at place i, by the words of P18.2.
func asked(x api.Expr, i int) int {
	switch level := levelOf(x); level {
	case 0, 1: // parts of OR: AND; of AND: NOT
		return level + 1
	case 2: // of NOT: NOT
		return 2
	case 3: // of = to >=: sums
		return 4
	case 4, 5: // sums on the left, products on the right; products on the left, - on the right
		return level + min(i, 1)
	}
	return 6 // of -: -
}

// enclosed tells whether ( ) must stand around the part at place i.
func enclosed(x api.Expr, i int) bool {
	part := x.L[i]
	return levelOf(part) < asked(x, i) || x.K == api.XNeg && part.K == api.XConst && part.V.K == api.VInt && part.V.N >= 0
}

func copied(x api.Expr) api.Expr {
	x.L = slices.Clone(x.L)
	for i := range x.L {
		x.L[i] = copied(x.L[i])
	}
	return x
}

// said is short enough to be told.
func said(x api.Expr) string { return fmt.Sprintf("%.300s", fmt.Sprint(x)) }

func zero(x api.Expr) bool { return expr.Same(x, api.Expr{}) }

func sizeOf(x api.Expr) int {
	n := 1
	for _, y := range x.L {
		n += sizeOf(y)
	}
	return n
}

func reader(t *testing.T, s string) *lex.Reader {
	t.Helper()
	r, _, e := lex.New(s)
	if e != api.OK {
		t.Fatalf("New(%.200q): %d", s, e)
	}
	return r
}

// wantText: all of s is the condition x.
func wantText(t *testing.T, s string, x api.Expr) {
	t.Helper()
	if got, at, e := cond.Text(s); !expr.Same(got, x) || at != len(s) || e != api.OK {
		t.Errorf("Text(%.300q): %s, %d, %d, not %s", s, said(got), at, e, said(x))
	}
	r := reader(t, s)
	if got, at, e := cond.Parse(r); !expr.Same(got, x) || at != len(s) || e != api.OK || r.Peek() != (api.Token{K: api.TEnd, At: len(s)}) {
		t.Errorf("Parse of %.300q: %s, %d, %d, at %v, not %s", s, said(got), at, e, r.Peek(), said(x))
	}
}

// wantFault: s can't be gone on with at that place.
func wantFault(t *testing.T, s string, at int, e api.Errno) {
	t.Helper()
	if got, n, f := cond.Text(s); !zero(got) || n != at || f != e {
		t.Errorf("Text(%.300q): %s, %d, %d, not %d, %d", s, said(got), n, f, at, e)
	}
	if got, n, f := cond.Parse(reader(t, s)); !zero(got) || n != at || f != e {
		t.Errorf("Parse of %.300q: %s, %d, %d, not %d, %d", s, said(got), n, f, at, e)
	}
}

func wantForm(t *testing.T, s string, at int) {
	t.Helper()
	wantFault(t, s, at, api.ErrForm)
}

func wantLong(t *testing.T, s string, at int) {
	t.Helper()
	wantFault(t, s, at, api.ErrLong)
}

// wantLeft: s begins with the condition x, which goes on no further at that place.
func wantLeft(t *testing.T, s string, x api.Expr, at int) {
	t.Helper()
	r := reader(t, s)
	if got, n, e := cond.Parse(r); !expr.Same(got, x) || n != at || e != api.OK || r.At() != at || r.Peek().K == api.TEnd {
		t.Errorf("Parse of %.300q: %s, %d, %d, at %v, not %s, %d", s, said(got), n, e, r.Peek(), said(x), at)
	}
	if got, n, e := cond.Text(s); !zero(got) || n != at || e != api.ErrForm {
		t.Errorf("Text(%.300q): %s, %d, %d, not %d", s, said(got), n, e, at)
	}
}

// wantPrinted: x is printed as s, and is left as it was.
func wantPrinted(t *testing.T, x api.Expr, s string) {
	t.Helper()
	was := copied(x)
	if got, e := cond.Print(x); got != s || e != api.OK {
		t.Errorf("Print(%s): %q, %d, not %q", said(x), got, e, s)
	}
	if !expr.Same(x, was) {
		t.Errorf("Print of %s made it %s", said(was), said(x))
	}
}

// wantBoth: x is printed as s, which is read as x.
func wantBoth(t *testing.T, s string, x api.Expr) {
	t.Helper()
	wantText(t, s, x)
	wantPrinted(t, x, s)
}

func wantUnprinted(t *testing.T, what string, x api.Expr, e api.Errno) {
	t.Helper()
	if s, got := cond.Print(x); s != "" || got != e {
		t.Errorf("Print of %s: %q, %d, not %d", what, s, got, e)
	}
}

// P18.1

func TestText(t *testing.T) {
	lt := op(api.XLt, op(api.XAdd, ax, num(1)), num(5))
	eq := op(api.XEq, field("b", "y"), text("z"))
	wantBoth(t, "a.x + 1 < 5 AND NOT (b.y = 'z' OR a.x = -3)", and(lt, not(or(eq, op(api.XEq, ax, num(-3))))))
	wantBoth(t, "NOT (a.x = 1 OR b.x = 2)", not(or(op(api.XEq, ax, num(1)), op(api.XEq, bx, num(2)))))
	wantBoth(t, "a.x < c.x", op(api.XLt, ax, cx))
	wantBoth(t, "9223372036854775807 + 1 > 0", op(api.XGt, op(api.XAdd, num(math.MaxInt64), num(1)), num(0)))
	wantBoth(t, "a.x", ax)
	wantBoth(t, "a.x = 1 OR b.x = 2 AND c.x = 3", or(op(api.XEq, ax, num(1)), and(op(api.XEq, bx, num(2)), op(api.XEq, cx, num(3)))))
	wantText(t, " ( ( a . x\n+1 ) )<5\tAND NOT((b.y='z'OR a.x=-3)) ", and(lt, not(or(eq, op(api.XEq, ax, num(-3))))))
}

// Each kind alone: what it is written with, and its parts where they belong.
func TestEachKind(t *testing.T) {
	for k, s := range signs() {
		wantBoth(t, "a.x "+s+" b.x", op(k, ax, bx))
		wantBoth(t, "b.x "+s+" a.x", op(k, bx, ax))
		wantBoth(t, "a.x "+s+" a.x", op(k, ax, ax))
		wantText(t, "(a.x "+s+" b.x)", op(k, ax, bx))
		wantText(t, "(a.x) "+s+" ((b.x))", op(k, ax, bx))
		wantText(t, "a.x"+s+"b.x", op(k, ax, bx))
		wantText(t, "\n a.x\t"+s+"\n\nb.x ", op(k, ax, bx))
		if s != "-" {
			wantForm(t, s, 0)
			wantForm(t, s+" a.x", 0)
		}
		wantForm(t, "a.x "+s, 4+len(s))
		wantForm(t, "a.x "+s+" ", 5+len(s))
		wantForm(t, "(a.x "+s+")", 5+len(s))
		wantForm(t, "a.x "+s+" = b.x", 5+len(s))
		wantLeft(t, "(a.x "+s+" b.x))", op(k, ax, bx), 10+len(s))
	}
	wantBoth(t, "-a.x", neg(ax))
	wantBoth(t, "NOT a.x", not(ax))
	wantText(t, "- a.x", neg(ax))
	wantText(t, "NOT(a.x)", not(ax))
	wantText(t, "NOTa.x", not(ax))
	wantText(t, "(NOT (a.x))", not(ax))
	wantForm(t, "-", 1)
	wantForm(t, "NOT", 3)
	wantForm(t, "NOT ", 4)
	wantForm(t, "(-)", 2)
	wantForm(t, "(NOT)", 4)
	wantForm(t, "()", 1)
	wantForm(t, "(", 1)
	wantForm(t, ")", 0)
}

func TestWords(t *testing.T) {
	for s, x := range map[string]api.Expr{"TRUE": truth(1), "FALSE": truth(0), "NULL": null()} {
		wantBoth(t, s, x)
		wantBoth(t, "-"+s, neg(x))
		wantBoth(t, "NOT "+s, not(x))
		wantBoth(t, s+" = "+s, op(api.XEq, x, x))
		wantText(t, "("+s+")", x)
		wantText(t, s+" AND("+s+")OR "+s, or(and(x, x), x))
		wantLeft(t, s+" "+s, x, len(s)+1)
		wantLeft(t, s+".x", x, len(s))
		wantLeft(t, s+"(", x, len(s))
		wantText(t, "'"+s+"'", text(s))
		wantForm(t, s+"S", 0)
		wantForm(t, s[:len(s)-1], 0)
		wantForm(t, strings.ToLower(s), len(s)) // a name, behind which nothing comes
	}
	for _, s := range []string{"SEQ", "T", "AND", "OR", "WHERE", "WITHIN", "NOTNOT", "TRUEFALSE", "IS", "A", "NIL"} {
		wantForm(t, s, 0)
		wantForm(t, s+" a.x", 0)
		wantForm(t, "("+s+")", 1)
		wantForm(t, "a.x = "+s, 6)
		wantForm(t, "NOT "+s, 4)
		wantForm(t, "-"+s, 1)
		wantForm(t, "a.x AND "+s, 8)
		if s != "AND" && s != "OR" {
			wantLeft(t, "a.x "+s, ax, 4)
			wantForm(t, "(a.x "+s+")", 5)
		}
	}
}

func TestNames(t *testing.T) {
	long := strings.Repeat("n", api.MaxName)
	for _, s := range []string{"a", "a1_", "z9", long, "not", "true", "null"} {
		wantBoth(t, s+".x", field(s, "x"))
		wantBoth(t, "a."+s, field("a", s))
		wantBoth(t, s+"."+s, field(s, s))
		wantText(t, s+" . "+s, field(s, s))
		wantForm(t, s, len(s))
		wantForm(t, s+".", len(s)+1)
		wantForm(t, s+" ", len(s)+1)
		wantForm(t, s+". ", len(s)+2)
		wantForm(t, s+" < 1", len(s)+1)
		wantForm(t, "("+s+")", len(s)+1)
		wantForm(t, s+" "+s, len(s)+1)
		wantLeft(t, s+".x "+s, field(s, "x"), len(s)+3)
		wantLeft(t, s+".x.y", field(s, "x"), len(s)+2)
	}
	for _, s := range []string{"1", "'x'", "TRUE", "A", "(", ")", ".", "-", "NOT", "="} {
		wantForm(t, "a."+s, 2)
		wantForm(t, "a. "+s, 3)
		wantForm(t, "b.y = a."+s, 8)
	}
	for _, s := range []string{"1", "'x'", "TRUE", "A", "(", ")", "-", "NOT", "=", ",", "->"} {
		wantForm(t, "a "+s, 2)
		wantForm(t, "a "+s+" x", 2)
		wantForm(t, "(a "+s, 3)
	}
	wantForm(t, ".x", 0)
}

func TestTexts(t *testing.T) {
	for s, want := range map[string]string{`''`: "", `'z'`: "z", `'it\'s'`: "it's", `'\\'`: `\`, `'\x00\x0a\x7f\xff'`: "\x00\n\x7f\xff", `'\xc3\xa4'`: "ä", `' ( '`: " ( ", `'AND'`: "AND", `'-1'`: "-1", `'a.x'`: "a.x", `'\'\\\''`: `'\'`, "'" + strings.Repeat("t", api.MaxText) + "'": strings.Repeat("t", api.MaxText)} {
		wantBoth(t, s, text(want))
		wantBoth(t, "-"+s, neg(text(want)))
		wantBoth(t, "a.x <> "+s, op(api.XNe, ax, text(want)))
		wantText(t, "("+s+")", text(want))
		wantLeft(t, s+s, text(want), len(s))
		wantLeft(t, s+".x", text(want), len(s))
	}
}

// Two signs side by side, without ( ) and with them at either side: the tighter one is done ahead, of like ones the left one.
func TestLevelsWithinEachOther(t *testing.T) {
	for f, a := range signs() {
		for g, b := range signs() {
			left, right := op(g, op(f, ax, bx), cx), op(f, ax, op(g, bx, cx))
			if f == g && (f == api.XAnd || f == api.XOr) {
				left, right = op(f, ax, bx, cx), op(f, ax, bx, cx)
			}
			wantText(t, "(a.x "+a+" b.x) "+b+" c.x", left)
			wantText(t, "a.x "+a+" (b.x "+b+" c.x)", right)
			wantText(t, "(a.x "+a+" b.x "+")"+b+"(c.x)", left)
			s := "a.x " + a + " b.x " + b + " c.x"
			switch x, y := levelOf(op(f)), levelOf(op(g)); {
			case x == 3 && y == 3:
				wantLeft(t, s, op(f, ax, bx), 9+len(a))
				wantForm(t, "("+s+")", 10+len(a))
			case x >= y:
				wantText(t, s, left)
				wantText(t, "("+s+")", left)
			default:
				wantText(t, s, right)
				wantText(t, "("+s+")", right)
			}
		}
	}
}

// - and NOT ahead of each sign, behind it, and around it.
func TestMinusAndNotWithinOthers(t *testing.T) {
	for k, s := range signs() {
		wantText(t, "-a.x "+s+" b.x", op(k, neg(ax), bx))
		wantText(t, "a.x "+s+" -b.x", op(k, ax, neg(bx)))
		wantText(t, "a.x "+s+"-b.x", op(k, ax, neg(bx)))
		wantText(t, "-(a.x "+s+" b.x)", neg(op(k, ax, bx)))
		wantText(t, "NOT (a.x "+s+" b.x)", not(op(k, ax, bx)))
		wantText(t, "(NOT a.x) "+s+" b.x", op(k, not(ax), bx))
		wantText(t, "a.x "+s+" (NOT b.x)", op(k, ax, not(bx)))
		if k == api.XAnd || k == api.XOr {
			wantText(t, "NOT a.x "+s+" b.x", op(k, not(ax), bx))
			wantText(t, "a.x "+s+" NOT b.x", op(k, ax, not(bx)))
			wantText(t, "NOT a.x "+s+" NOT NOT b.x", op(k, not(ax), not(not(bx))))
			continue
		}
		wantText(t, "NOT a.x "+s+" b.x", not(op(k, ax, bx)))
		wantForm(t, "a.x "+s+" NOT b.x", 5+len(s))
		wantForm(t, "(a.x "+s+" NOT b.x)", 6+len(s))
	}
	wantBoth(t, "NOT NOT a.x", not(not(ax)))
	wantBoth(t, "--a.x", neg(neg(ax)))
	wantBoth(t, "NOT -a.x", not(neg(ax)))
	wantBoth(t, "-(NOT a.x)", neg(not(ax)))
	wantForm(t, "-NOT a.x", 1)
	wantForm(t, "- NOT a.x", 2)
	wantBoth(t, "NOT NOT NULL = a.k", not(not(op(api.XEq, null(), field("a", "k")))))
	wantBoth(t, "--a.x % 3", op(api.XMod, neg(neg(ax)), num(3)))
}

func TestFromTheLeft(t *testing.T) {
	for f, a := range signs() {
		for g, b := range signs() {
			for h, c := range signs() {
				if levelOf(op(f)) != levelOf(op(g)) || levelOf(op(g)) != levelOf(op(h)) || levelOf(op(f)) < 4 {
					continue
				}
				wantBoth(t, "a.x "+a+" b.x "+b+" c.x "+c+" 1", op(h, op(g, op(f, ax, bx), cx), num(1)))
				wantBoth(t, "a.x "+a+" (b.x "+b+" (c.x "+c+" 1))", op(f, ax, op(g, bx, op(h, cx, num(1)))))
				wantBoth(t, "a.x "+a+" (b.x "+b+" c.x) "+c+" 1", op(h, op(f, ax, op(g, bx, cx)), num(1)))
			}
		}
	}
	wantBoth(t, "1 - (2 - 3) - 4", op(api.XSub, op(api.XSub, num(1), op(api.XSub, num(2), num(3))), num(4)))
	wantBoth(t, "1 - 2 * 3 - 4 / 5 % 6", op(api.XSub, op(api.XSub, num(1), op(api.XMul, num(2), num(3))), op(api.XMod, op(api.XDiv, num(4), num(5)), num(6))))
}

func TestComparisonsOnce(t *testing.T) {
	wantLeft(t, "a.x < 1 < 2", op(api.XLt, ax, num(1)), 8)
	wantLeft(t, "a.x + 1 = b.x * 2 <> 3", op(api.XEq, op(api.XAdd, ax, num(1)), op(api.XMul, bx, num(2))), 18)
	wantLeft(t, "NOT a.x = 1 = 2", not(op(api.XEq, ax, num(1))), 12)
	wantLeft(t, "a.x AND b.x = 1 = 2", and(ax, op(api.XEq, bx, num(1))), 16)
	wantForm(t, "(a.x = 1 = 2)", 9)
	wantForm(t, "a.x = (1 = 2 = 3)", 13)
	wantBoth(t, "(a.x < 1) = TRUE", op(api.XEq, op(api.XLt, ax, num(1)), truth(1)))
	wantBoth(t, "a.x = (b.x = c.x)", op(api.XEq, ax, op(api.XEq, bx, cx)))
	wantBoth(t, "a.x = 1 AND b.x = 2 OR c.x = 3", or(and(op(api.XEq, ax, num(1)), op(api.XEq, bx, num(2))), op(api.XEq, cx, num(3)))) // each part has its own
	wantBoth(t, "NOT a.x = 1 AND NOT b.x = 2", and(not(op(api.XEq, ax, num(1))), not(op(api.XEq, bx, num(2)))))
}

// An OR counts as its parts in an OR, an AND in an AND, however deep in ( ), but not in each other.
func TestJoinedParts(t *testing.T) {
	for k, word := range map[int]string{api.XOr: "OR", api.XAnd: "AND"} {
		three, four := op(k, ax, bx, cx), op(k, ax, bx, cx, num(4))
		for s, x := range map[string]api.Expr{
			"a.x # b.x # c.x": three, "(a.x # b.x) # c.x": three, "a.x # (b.x # c.x)": three, "((a.x # b.x)) # c.x": three, "a.x # (((b.x # c.x)))": three, "(a.x # (b.x # c.x))": three, "((a.x) # b.x) # (c.x)": three,
			"(a.x # b.x) # (c.x # 4)": four, "((a.x # b.x) # c.x) # 4": four, "a.x # (b.x # (c.x # 4))": four, "a.x # (b.x # c.x) # 4": four, "a.x # ((b.x) # (c.x # 4))": four,
			"NOT (a.x # b.x) # c.x":         op(k, not(op(k, ax, bx)), cx),
			"(a.x # b.x) = TRUE # c.x":      op(k, op(api.XEq, op(k, ax, bx), truth(1)), cx),
			"a.x # -(b.x # c.x)":            op(k, ax, neg(op(k, bx, cx))),
			"a.x # (NOT (b.x # (c.x # 4)))": op(k, ax, not(op(k, bx, cx, num(4)))),
			"a.x # a.x # a.x":               op(k, ax, ax, ax),
		} {
			wantText(t, strings.ReplaceAll(s, "#", word), x)
		}
	}
	wantText(t, "(a.x AND b.x) OR c.x", or(and(ax, bx), cx))
	wantText(t, "(a.x OR b.x) AND c.x", and(or(ax, bx), cx))
	wantText(t, "(a.x OR (b.x AND (c.x OR 4) AND 5)) OR 6", or(ax, and(bx, or(cx, num(4)), num(5)), num(6)))
	wantText(t, "(a.x AND (b.x OR (c.x AND 4) OR 5)) AND 6", and(ax, or(bx, and(cx, num(4)), num(5)), num(6)))
	wantText(t, "(a.x = 1 AND (b.x = 2)) AND TRUE", and(op(api.XEq, ax, num(1)), op(api.XEq, bx, num(2)), truth(1)))
}

func TestNumbers(t *testing.T) {
	const beyond, most = "9223372036854775808", "9223372036854775807"
	wantBoth(t, "0", num(0))
	wantBoth(t, "5", num(5))
	wantBoth(t, "-5", num(-5))
	wantBoth(t, most, num(math.MaxInt64))
	wantBoth(t, "-"+most, num(-math.MaxInt64))
	wantBoth(t, "-"+beyond, num(math.MinInt64))
	wantBoth(t, "-(5)", neg(num(5)))
	wantBoth(t, "-(0)", neg(num(0)))
	wantBoth(t, "--5", neg(num(-5)))
	wantBoth(t, "--(5)", neg(neg(num(5))))
	wantBoth(t, "---5", neg(neg(num(-5))))
	wantBoth(t, "--"+beyond, neg(num(math.MinInt64)))
	for s, x := range map[string]api.Expr{
		"- 5": num(-5), "-\n\t5": num(-5), "(-5)": num(-5), "(- 5)": num(-5), "-0": num(0), "- 0": num(0), "(-0)": num(0), "--0": neg(num(0)), "- - 5": neg(num(-5)), "-(-5)": neg(num(-5)), "-((5))": neg(num(5)), "(-(5))": neg(num(5)), "-(-0)": neg(num(0)), "-(-(5))": neg(neg(num(5))), "- " + beyond: num(math.MinInt64), "(-" + beyond + ")": num(math.MinInt64),
		"1-5": op(api.XSub, num(1), num(5)), "1 -5": op(api.XSub, num(1), num(5)), "1--5": op(api.XSub, num(1), num(-5)), "1 - - 5": op(api.XSub, num(1), num(-5)), "1 - -(5)": op(api.XSub, num(1), neg(num(5))), "1+-5": op(api.XAdd, num(1), num(-5)), "-1-1": op(api.XSub, num(-1), num(1)), "1 - -0": op(api.XSub, num(1), num(0)),
		"-5*-6": op(api.XMul, num(-5), num(-6)), "-5 - -5 * -(5)": op(api.XSub, num(-5), op(api.XMul, num(-5), neg(num(5)))), "a.x-1": op(api.XSub, ax, num(1)), "(1)-1": op(api.XSub, num(1), num(1)), "'1'-1": op(api.XSub, text("1"), num(1)), "NULL-1": op(api.XSub, null(), num(1)), "a.x=-1": op(api.XEq, ax, num(-1)), "NOT -1": not(num(-1)), "1 AND -1": and(num(1), num(-1)),
		"1 - -" + beyond: op(api.XSub, num(1), num(math.MinInt64)),
	} {
		wantText(t, s, x)
	}
	wantBoth(t, "-(5) - -5 * (1 - 2)", op(api.XSub, neg(num(5)), op(api.XMul, num(-5), op(api.XSub, num(1), num(2)))))
	wantBoth(t, "-9223372036854775808 <> 0", op(api.XNe, num(math.MinInt64), num(0)))
	wantLeft(t, "5 5", num(5), 2)
	wantLeft(t, "5.5", num(5), 1)
	wantLeft(t, "-5 5", num(-5), 3)
	wantLeft(t, "-5(", num(-5), 2)
}

// Of a number that is none the place is its own, not that of what stands ahead of it.
func TestNumbersBeyond(t *testing.T) {
	const beyond = "9223372036854775808"
	for s, at := range map[string]int{
		beyond: 0, " " + beyond: 1, "(" + beyond + ")": 1, "-(" + beyond + ")": 2, "- (" + beyond + ")": 3, "-9223372036854775809": 1, "- 9223372036854775809": 2, "--9223372036854775809": 2, "- -9223372036854775809": 3, "9999999999999999999": 0, "-9999999999999999999": 1,
		"1 - " + beyond: 4, "1 -" + beyond: 3, "a.x-" + beyond: 4, "(1)-" + beyond: 4, "1 - -9223372036854775809": 5, "a.x = " + beyond: 6, "a.x = -9223372036854775809": 7, "NOT " + beyond: 4, "TRUE AND " + beyond + " AND": 9, beyond + " )": 0, "-9223372036854775809 )": 1, "2 * " + beyond: 4,
	} {
		wantForm(t, s, at)
	}
}

func TestNothing(t *testing.T) {
	for _, s := range []string{"", " ", "\n", "\t \n"} {
		wantForm(t, s, len(s))
		wantForm(t, "("+s, 1+len(s))
		wantForm(t, "NOT"+s, 3+len(s))
		wantForm(t, "a.x AND"+s, 7+len(s))
	}
}

func TestFaults(t *testing.T) {
	for s, at := range map[string]int{
		"a.": 2, "a < 1": 2, "(a.x": 4, "TRUE AND": 8, "SEQ": 0, "a.x AND OR b.x": 8, "a.x OR AND b.x": 7, "a.x = = 1": 6, "a.x + * 1": 6, "a.x * / 1": 6, "a.x < > 1": 6, "a.x > = 1": 6, "a.x AND (b.x": 12, "a.x AND (b.x,": 12, "(a.x b.x)": 5, "((a.x)": 6, "(a.x OR b.x AND)": 15, "a.x = 1 AND ,": 12, "!": 0, "[1]": 0, "{": 0, "|": 0, "-> a.x": 0, "a.x = !": 6, "->": 0, "a->b": 1, "-->": 1, "(1 = 2 < 3)": 7, "NOT AND": 4, "NOT )": 4, "1 + )": 4, "*a.x": 0, "+1": 0, "a.x = +1": 6, "2 * +1": 4, "()": 1, "a.x = ()": 7,
	} {
		wantForm(t, s, at)
	}
	for s, at := range map[string]int{"a.x()": 3, "a.x(b.x)": 3, "a.x,": 3, "a.x b.x": 4, "a.x -> b.x": 4, "a.x | b.x": 4, "a.x ! b.x": 4, "a.x 'z'": 4, "a.x 1": 4, "a.x NOT b.x": 4, "a.x TRUE": 4, "a.x WITHIN 10": 4, "a.x [": 4, "a.x }": 4, "a.x .y": 4} {
		wantLeft(t, s, ax, at)
		wantForm(t, "("+s, at+1)
	}
	wantLeft(t, "a.x)", ax, 3)
	wantLeft(t, "(a.x)(b.x)", ax, 5)
	wantLeft(t, "(a.x))", ax, 5)
}

// lex speaks ahead of all else that is wrong.
func TestLexRefuses(t *testing.T) {
	for _, s := range []string{"?", "a.x ?", ") ?", "a.x = 'z", "'", `a.x = '\q'`, "a.x = 01", "12345678901234567890", "(_", "a.x = 1 AND \xff", strings.Repeat("A", api.MaxName+1), "a." + strings.Repeat("n", api.MaxName+1), "a.x = '" + strings.Repeat("t", api.MaxText+1) + "'", strings.Repeat(" ", api.MaxSource+1), strings.Repeat("(", api.MaxSource+1), strings.Repeat("(", mostOpen+1) + "?", "9223372036854775808 ?", strings.Repeat("NOT ", api.MaxExpr) + "?"} {
		_, at, e := lex.All(s)
		if e == api.OK {
			t.Fatalf("All(%.100q)", s)
		}
		if x, n, f := cond.Text(s); !zero(x) || n != at || f != e {
			t.Errorf("Text(%.100q): %s, %d, %d, not %d, %d", s, said(x), n, f, at, e)
		}
	}
	full := strings.Repeat(" ", api.MaxSource-3) + "a.x"
	wantText(t, full, ax)
	if x, n, e := cond.Text(full + " "); !zero(x) || n != 0 || e != api.ErrLong {
		t.Errorf("Text of one byte too many: %v, %d, %d", x, n, e)
	}
}

// Parse begins where the reader stands, and leaves what is behind to others.
func TestParseWithinARow(t *testing.T) {
	r := reader(t, "WHERE a.x = 1 AND NOT b.x PARTITION BY k, (1 + 2) -3 'z' NULL x")
	want := func(x api.Expr, at int, mark int) {
		t.Helper()
		if got, n, e := cond.Parse(r); !expr.Same(got, x) || n != at || e != api.OK || r.At() != at || r.Mark() != mark {
			t.Errorf("Parse: %v, %d, %d, at %d behind %d, not %v, %d behind %d", got, n, e, r.At(), r.Mark(), x, at, mark)
		}
	}
	fault := func(at int) {
		t.Helper()
		mark := r.Mark()
		if got, n, e := cond.Parse(r); !zero(got) || n != at || e != api.ErrForm {
			t.Errorf("Parse: %v, %d, %d, not %d", got, n, e, at)
		}
		r.Back(mark)
	}
	fault(0)
	r.Word("WHERE")
	first := and(op(api.XEq, ax, num(1)), not(bx))
	want(first, 26, 11)
	r.Back(1)
	want(first, 26, 11)
	fault(26)
	r.Word("PARTITION")
	fault(36)
	r.Word("BY")
	fault(40)
	r.Name()
	fault(40)
	r.Sign(",")
	sum := op(api.XSub, op(api.XAdd, num(1), num(2)), num(3))
	want(sum, 53, 22)
	want(text("z"), 57, 23)
	want(null(), 62, 24)
	fault(63)
	r.Name()
	fault(63)
}

func TestPlaceOfTheFirstToken(t *testing.T) {
	long := strings.Repeat("1 + ", api.MaxExpr) + "1"
	for _, s := range []string{long, long + " )", strings.Repeat("NOT ", api.MaxExpr) + "1", strings.Repeat("1 OR ", api.MaxExpr) + "1"} {
		r := reader(t, "x , \n"+s)
		r.Next()
		r.Next()
		if x, at, e := cond.Parse(r); !zero(x) || at != 5 || e != api.ErrLong {
			t.Errorf("Parse of %.30q: %v, %d, %d", s, x, at, e)
		}
	}
}

func TestNoReader(t *testing.T) {
	end := reader(t, "a.x = 1")
	for end.Peek().K != api.TEnd {
		end.Next()
	}
	refused, _, _ := lex.New("a.x ?")
	for _, c := range []struct {
		what string
		r    *lex.Reader
		at   int
	}{{"nil", nil, 0}, {"new", new(lex.Reader), 0}, {"a literal", &lex.Reader{}, 0}, {"refused", refused, 0}, {"at its end", end, 7}} {
		for range 3 {
			if x, at, e := cond.Parse(c.r); !zero(x) || at != c.at || e != api.ErrForm {
				t.Errorf("Parse of a reader that is %s: %v, %d, %d", c.what, x, at, e)
			}
		}
	}
}

// bushes are texts whose conditions have just n nodes, n from 4 on; some have so many only if it is odd.
func bushes(n int) map[string]string {
	l := map[string]string{
		"NOT":              strings.Repeat("NOT ", n-1) + "a.x",
		"-":                strings.Repeat("-", n-1) + "a.x",
		"- and a number":   strings.Repeat("-", n) + "7",
		"OR":               strings.Repeat("a.x OR ", n-2) + "a.x",
		"AND":              strings.Repeat("a.x AND ", n-2) + "a.x",
		"OR in ( )":        "(a.x OR (" + strings.Repeat("a.x OR ", n-3) + "a.x))",
		"AND of ANDs":      "(a.x AND a.x)" + strings.Repeat(" AND (a.x)", n-3),
		"NOT of a row":     "NOT (" + strings.Repeat("a.x AND ", n-3) + "a.x)",
		"negative numbers": "-0" + strings.Repeat(" OR -1", n-2),
		"in needless ( )":  strings.Repeat("NOT ", n-1) + "(((a.x)))",
		"NOT of a text":    strings.Repeat("NOT ", n-1) + "'z'",
	}
	if n%2 == 1 {
		l["sums"] = "1" + strings.Repeat(" + 1", n/2)
		l["differences"] = "1" + strings.Repeat(" - -1", n/2)
		l["products"] = "a.x" + strings.Repeat(" * 'z'", n/2)
		l["sums to the right"] = strings.Repeat("1 + (", n/2) + "1" + strings.Repeat(")", n/2)
		l["comparisons"] = strings.Repeat("(", n/2) + "1" + strings.Repeat(" < 2)", n/2)
	} else {
		l["a comparison of sums"] = "-a.x" + strings.Repeat(" - 1", (n-4)/2) + " = 1"
	}
	return l
}

func TestAsManyNodesAsMayBe(t *testing.T) {
	for _, n := range []int{4, 5, api.MaxExpr - 1, api.MaxExpr} {
		for what, s := range bushes(n) {
			x, at, e := cond.Text(s)
			if sizeOf(x) != n || at != len(s) || e != api.OK {
				t.Errorf("Text of %s, %d nodes: %d, %d, %d", what, n, sizeOf(x), at, e)
			}
		}
	}
	for _, n := range []int{api.MaxExpr + 1, api.MaxExpr + 2, 150, 151} {
		for what, s := range bushes(n) {
			for _, ahead := range []string{"", " ", "\n\t "} {
				if x, at, e := cond.Text(ahead + s); !zero(x) || at != len(ahead) || e != api.ErrLong {
					t.Errorf("Text of %s, %d nodes behind %q: %d, %d", what, n, ahead, at, e)
				}
			}
			wantLong(t, s+" ,", 0)            // what is left behind it is named later
			wantForm(t, s+" AND )", len(s)+5) // what can't go on is named ahead
			wantForm(t, "("+s, len(s)+1)
			wantForm(t, s+" OR 9223372036854775808 OR 1", len(s)+4)
		}
	}
}

// Far more nodes than may be: as many as a text has room for.
func TestAsManyNodesAsATextHas(t *testing.T) {
	for _, c := range []string{" + ", "+", " AND ", "OR", " * ", "-", "-(", " OR ("} {
		n := (api.MaxSource - 1000) / (len(c) + 1)
		s := strings.Repeat("1"+c, n) + "1"
		if strings.HasSuffix(c, "(") {
			n = min(n, mostOpen)
			s = strings.Repeat("1"+c, n) + "1" + strings.Repeat(")", n)
		}
		wantLong(t, s, 0)
		wantLong(t, "  "+s, 2)
	}
	wantText(t, strings.Repeat("(", mostOpen-1)+"1"+strings.Repeat(" OR (1)", 98)+strings.Repeat(")", mostOpen-1), or(slices.Repeat([]api.Expr{num(1)}, 99)...))
}

// nested is a text that has all of l open at once around s.
func nested(s string, l ...string) string {
	ahead := strings.Join(l, "")
	return ahead + s + strings.Repeat(")", strings.Count(ahead, "("))
}

func TestAsManyOpenAsMayBe(t *testing.T) {
	for n := mostOpen - 2; n <= mostOpen; n++ {
		wantText(t, nested("1", slices.Repeat([]string{"("}, n)...), num(1))
		wantLong(t, nested("a.x", slices.Repeat([]string{"-"}, n)...), 0) // for its nodes
		wantLong(t, nested("a.x", slices.Repeat([]string{"NOT "}, n)...), 0)
		wantLong(t, " "+nested("a.x", slices.Repeat([]string{"NOT "}, n)...), 1)
	}
	for _, n := range []int{1, 2, 3, 100, 1000} {
		for _, s := range []string{"(", "-", "NOT ", "( ", "-\n", "NOT\n\t"} {
			l := slices.Repeat([]string{s}, mostOpen+n)
			at := mostOpen * len(s)
			wantLong(t, nested("a.x", l...), at)
			wantLong(t, " "+nested("a.x", l...), at+1)
			wantLong(t, nested("a.x", l...)+" ,", at)
			wantLong(t, "b.x = 1 AND "+nested("a.x", l...), at+12)
			wantLong(t, strings.Join(l, ""), at) // whatever comes behind it
			wantForm(t, strings.Join(l[:mostOpen], ""), at)
			wantForm(t, strings.Join(l[:mostOpen-1], "")+"*", at-len(s))
		}
	}
}

// mixed has n open, k of them nodes, in an order by chance; a - is never right ahead of a NOT.
func mixed(by *rand.Rand, n, k int) []string {
	l := slices.Repeat([]string{"("}, n)
	for _, i := range by.Perm(n)[:k] {
		l[i] = []string{"-", "NOT "}[by.Intn(2)]
	}
	for i := 1; i < n; i++ {
		if l[i] == "NOT " && l[i-1] == "-" {
			l[i] = "-"
		}
	}
	return l
}

// nestedIn is the condition of nested.
func nestedIn(x api.Expr, l ...string) api.Expr {
	for _, s := range slices.Backward(l) {
		switch s {
		case "-":
			x = neg(x)
		case "NOT ":
			x = not(x)
		}
	}
	return x
}

func TestOpenMixed(t *testing.T) {
	by := rand.New(rand.NewSource(1))
	for range 500 {
		l := mixed(by, mostOpen, by.Intn(api.MaxExpr))
		ahead := strings.Join(l, "")
		wantText(t, nested("a.x", l...), nestedIn(ax, l...))
		wantText(t, nested("-5", l...), nestedIn(num(-5), l...)) // the - of a number is open for nothing
		wantForm(t, ahead+"*", len(ahead))
		for _, more := range []string{"(", "-", "NOT "} {
			if more == "NOT " && l[mostOpen-1] == "-" {
				continue
			}
			wantLong(t, nested("a.x", append(l, more)...), len(ahead))
			wantLong(t, ahead+more, len(ahead))
		}
	}
}

// Those that are closed again do not count: with room for one more each of a row finds it.
func TestClosedAgain(t *testing.T) {
	most := slices.Repeat([]string{"("}, mostOpen-1)
	for _, s := range []string{"(1) + (2) + (3)", "-a.x - -a.x - -a.x", "NOT a.x AND NOT b.x AND NOT c.x", "NOT a.x OR NOT b.x OR NOT c.x", "(1) = (2) OR NOT 3 AND -a.x = -'z'", "-a.x * -a.x = -TRUE", "(-5) + (-6)", "NOT 1 = 2 OR (NULL)", "(1 OR 2) AND (3 OR 4)"} {
		want, _, e := cond.Text(s)
		if e != api.OK {
			t.Fatalf("Text(%q): %d", s, e)
		}
		wantText(t, nested(s, most...), want)
		wantLong(t, nested(s, append(most, "(")...), mostOpen+strings.IndexAny(s, "(-N"))
	}
	wantLong(t, nested("-NULL < -(-1)", most...), mostOpen-1+9) // two at once, behind one that is closed
	wantLong(t, nested("NOT 1 = -a.x", most...), mostOpen-1+8)
	wantLong(t, nested("NOT 1 OR NOT NOT 2", most...), mostOpen-1+13)
	deep := nested("1", append(most, "(")...)
	wantText(t, deep+" + "+deep, op(api.XAdd, num(1), num(1)))
	wantText(t, deep+" = "+deep+" AND "+deep+" OR "+deep, or(and(op(api.XEq, num(1), num(1)), num(1)), num(1)))
	wantLong(t, deep+" + ("+deep+")", len(deep)+3+mostOpen)
	wantText(t, nested("1 - 2 - 3 * -5", append(most, "(")...), op(api.XSub, op(api.XSub, num(1), num(2)), op(api.XMul, num(3), num(-5)))) // between two a - opens nothing
	by := rand.New(rand.NewSource(2))
	for range 50 {
		l := mixed(by, mostOpen, by.Intn(api.MaxExpr/2-3))
		wantText(t, nested("1 = 1", "(")+" AND "+nested("a.x", l...)+" AND TRUE AND "+nested("a.x", l...), and(op(api.XEq, num(1), num(1)), nestedIn(ax, l...), truth(1), nestedIn(ax, l...)))
	}
}

// The model reads by other means: a row of tokens is gone over with a row of what is open, and what it lets be is cut at its loosest sign.

// state is what the model knows between two tokens.
type state struct {
	operand bool   // one was read last
	not     bool   // else: a NOT may come
	field   int    // how much of a name, a . and a name was read
	minus   bool   // a - that is none of two parts was read last
	seen    []bool // of the whole and of each ( that is open: was a comparison read since the last AND, OR?
	open    string // of ( - N, in their order
}

func sign(x api.Token) string {
	if x.K == api.TSign || x.K == api.TWord {
		return x.S
	}
	return ""
}

func ends(s string, with byte) bool { return s != "" && s[len(s)-1] == with }

// whole is told of what - may stand ahead of.
func (m *state) whole() {
	m.operand, m.minus = true, false
	for ends(m.open, '-') {
		m.open = m.open[:len(m.open)-1]
	}
}

func (m *state) apart() {
	for ends(m.open, 'N') {
		m.open = m.open[:len(m.open)-1]
	}
}

// begin takes a token that an operand begins with, if it is one; next is the one behind it.
func (m *state) begin(x, next api.Token) bool {
	minus := m.minus
	m.minus = false
	switch s := sign(x); {
	case x.K == api.TInt:
		if _, err := strconv.ParseInt(x.S, 10, 64); err != nil && !(minus && x.S == "9223372036854775808") {
			return false
		}
		m.whole()
	case x.K == api.TText, s == "TRUE", s == "FALSE", s == "NULL":
		m.whole()
	case x.K == api.TName:
		m.field = 1
	case s == "NOT" && m.not:
		m.open += "N"
	case s == "-":
		m.not, m.minus = false, true
		if next.K != api.TInt {
			m.open += "-"
		}
	case s == "(":
		m.not = true
		m.open += "("
		m.seen = append(m.seen, false)
	default:
		return false
	}
	return true
}

// goOn takes a token that may stand behind an operand, if it is one.
func (m *state) goOn(x api.Token) bool {
	top := len(m.seen) - 1
	switch sign(x) {
	case "+", "-", "*", "/", "%":
		m.operand, m.not = false, false
	case "=", "<>", "<", "<=", ">", ">=":
		if m.seen[top] {
			return false
		}
		m.operand, m.not, m.seen[top] = false, false, true
	case "AND", "OR":
		m.apart()
		m.operand, m.not, m.seen[top] = false, true, false
	case ")":
		if top == 0 {
			return false
		}
		m.seen = m.seen[:top]
		m.apart()
		m.open = m.open[:len(m.open)-1]
		m.whole()
	default:
		return false
	}
	return true
}

func (m *state) take(x, next api.Token) bool {
	switch {
	case m.field == 1 && sign(x) == ".":
		m.field = 2
		return true
	case m.field == 2 && x.K == api.TName:
		m.field = 0
		m.whole()
		return true
	case m.field > 0:
		return false
	case m.operand:
		return m.goOn(x)
	}
	return m.begin(x, next)
}

// model is what Parse answers of the tokens l, the TEnd last, and how many of them it takes.
func model(l []api.Token) (api.Expr, int, int, api.Errno) {
	m := &state{not: true, seen: []bool{false}}
	for i, x := range l {
		if !m.take(x, l[min(i+1, len(l)-1)]) {
			if !m.operand || len(m.seen) > 1 {
				return api.Expr{}, 0, x.At, api.ErrForm
			}
			got := cut(l[:i])
			if sizeOf(got) > api.MaxExpr {
				return api.Expr{}, 0, l[0].At, api.ErrLong
			}
			return got, i, x.At, api.OK
		}
		if len(m.open) > mostOpen {
			return api.Expr{}, 0, x.At, api.ErrLong
		}
	}
	panic("a TEnd was taken")
}

// closes tells whether an operand can end with x.
func closes(x api.Token) bool {
	switch sign(x) {
	case "", ")", "TRUE", "FALSE", "NULL":
		return true
	}
	return false
}

// outside tells which signs and words of l lie in no ( ); a - that no operand stands ahead of is left out.
func outside(l []api.Token) []int {
	var at []int
	deep := 0
	for i, x := range l {
		switch s := sign(x); {
		case s == "(":
			deep++
		case s == ")":
			deep--
		case s == "" || deep > 0 || s == "-" && (i == 0 || !closes(l[i-1])):
		default:
			at = append(at, i)
		}
	}
	return at
}

// cut is the condition of tokens that are one.
func cut(l []api.Token) api.Expr {
	at := outside(l)
	for _, k := range []int{api.XOr, api.XAnd} {
		if x, ok := cutAtEach(k, l, at); ok {
			return x
		}
	}
	if sign(l[0]) == "NOT" {
		return not(cut(l[1:]))
	}
	for _, level := range []int{3, 4, 5} {
		for _, i := range slices.Backward(at) {
			for k, s := range signs() {
				if levelOf(op(k)) == level && sign(l[i]) == s {
					return op(k, cut(l[:i]), cut(l[i+1:]))
				}
			}
		}
	}
	switch s := sign(l[0]); {
	case s == "-" && l[1].K == api.TInt:
		n, _ := strconv.ParseInt("-"+l[1].S, 10, 64)
		return num(n)
	case s == "-":
		return neg(cut(l[1:]))
	case s == "(":
		return cut(l[1 : len(l)-1])
	case s != "":
		return map[string]api.Expr{"TRUE": truth(1), "FALSE": truth(0), "NULL": null()}[s]
	case l[0].K == api.TText:
		return text(l[0].S)
	case l[0].K == api.TName:
		return field(l[0].S, l[2].S)
	}
	n, _ := strconv.ParseInt(l[0].S, 10, 64)
	return num(n)
}

// cutAtEach has the parts of those of its own kind in their place.
func cutAtEach(k int, l []api.Token, at []int) (api.Expr, bool) {
	x := op(k)
	from := 0
	add := func(part api.Expr) {
		if part.K == k {
			x.L = append(x.L, part.L...)
		} else {
			x.L = append(x.L, part)
		}
	}
	for _, i := range at {
		if sign(l[i]) == signs()[k] {
			add(cut(l[from:i]))
			from = i + 1
		}
	}
	if from == 0 {
		return api.Expr{}, false
	}
	add(cut(l[from:]))
	return x, true
}

// wantAsModel holds Parse and Text of s against the model.
func wantAsModel(t *testing.T, s string) {
	t.Helper()
	l, at, e := lex.All(s)
	if e != api.OK {
		if x, n, f := cond.Text(s); !zero(x) || n != at || f != e {
			t.Fatalf("Text(%q): %s, %d, %d, not %d, %d", s, said(x), n, f, at, e)
		}
		return
	}
	x, taken, at, e := model(l)
	r := reader(t, s)
	if got, n, f := cond.Parse(r); !expr.Same(got, x) || n != at || f != e || e == api.OK && r.Mark() != taken {
		t.Fatalf("Parse of %q: %s, %d, %d, %d taken, not %s, %d, %d, %d", s, said(got), n, f, r.Mark(), said(x), at, e, taken)
	}
	if e == api.OK && at < len(s) {
		x, e = api.Expr{}, api.ErrForm
	}
	if got, n, f := cond.Text(s); !expr.Same(got, x) || n != at || f != e {
		t.Fatalf("Text(%q): %s, %d, %d, not %s, %d, %d", s, said(got), n, f, said(x), at, e)
	}
}

// eachRow tells all rows of n of the words, with a blank between.
func eachRow(words []string, n int, tell func(string)) {
	at := make([]int, n)
	for {
		l := make([]string, n)
		for i := range l {
			l[i] = words[at[i]]
		}
		tell(strings.Join(l, " "))
		i := 0
		for i < n && at[i] == len(words)-1 {
			at[i] = 0
			i++
		}
		if i == n {
			return
		}
		at[i]++
	}
}

func TestEachShortRow(t *testing.T) {
	words := strings.Fields("( ) - + * = < AND OR NOT 5 9223372036854775808 'z' a . a.x TRUE SEQ ,")
	for n := range 4 {
		eachRow(words, n, func(s string) { wantAsModel(t, s) })
	}
	words = strings.Fields("( ) - + * = AND OR NOT 5 a.x")
	eachRow(words, 4, func(s string) { wantAsModel(t, s) })
	words = strings.Fields("( ) - = AND NOT 5 a.x")
	eachRow(words, 5, func(s string) { wantAsModel(t, s) })
	words = strings.Fields("( ) - OR NOT 5")
	eachRow(words, 6, func(s string) { wantAsModel(t, s) })
}

// Texts that are conditions, with each of their tokens left out, doubled, or another one in its place.
func TestEachOtherToken(t *testing.T) {
	others := strings.Fields("( ) - + / <= > AND OR NOT 0 9223372036854775809 'z' a . NULL IS | ->")
	for _, s := range []string{"a.x + 1 < 5 AND NOT ( b.y = 'z' OR a.x = - 3 )", "- ( 5 ) - - 5 * ( 1 - 2 )", "( a.x < 1 ) = TRUE", "NOT NOT NULL = a.k", "- - a.x % 3", "- 9223372036854775808 <> 0", "a.x = 1 OR ( b.x = 2 OR NOT c.x ) AND c.x = 3"} {
		l := strings.Fields(s)
		wantAsModel(t, s)
		for i := range l {
			wantAsModel(t, strings.Join(l[:i], " "))
			wantAsModel(t, strings.Join(slices.Delete(slices.Clone(l), i, i+1), " "))
			for _, x := range append(others, l...) {
				wantAsModel(t, strings.Join(slices.Replace(slices.Clone(l), i, i+1, x), " "))
				wantAsModel(t, strings.Join(slices.Insert(slices.Clone(l), i, x), " "))
			}
		}
	}
}

func pick[T any](by *rand.Rand, l []T) T { return l[by.Intn(len(l))] }

// Rows of tokens by chance, most of which go on for a while: what may come is likelier than what may not.
func someRow(by *rand.Rand, n int) string {
	leaves := []string{"a.x", "b . y", "5", "-5", "- 7", "'z'", `'\''`, "TRUE", "FALSE", "NULL", "0", "-0"}
	ahead := []string{"(", "(", "((", "-", "- -", "NOT", "NOT NOT", ""}
	between := []string{"+", "-", "*", "/", "%", "=", "<>", "<", "<=", ">", ">=", "AND", "OR", ") AND (", ") - (", ") ="}
	wrong := []string{"AND", ")", ".", "a", ",", "->", "SEQ", "9223372036854775808", "-9223372036854775808", "-9223372036854775809", "!"}
	var l []string
	for range by.Intn(n) {
		l = append(l, pick(by, ahead), pick(by, leaves), pick(by, []string{"", "", ")", "))"}), pick(by, between))
		if by.Intn(20) == 0 {
			l = append(l, pick(by, wrong))
		}
	}
	return strings.Join(append(l, pick(by, leaves)), pick(by, []string{" ", " ", "\n\t"}))
}

func TestParseAtRandom(t *testing.T) {
	by := rand.New(rand.NewSource(3))
	for range 40000 {
		wantAsModel(t, someRow(by, 8))
	}
	for range 2000 {
		wantAsModel(t, someRow(by, 120))
	}
}

// P18.2

// Each kind, with its parts as fields.
func eachKind() []api.Expr {
	l := []api.Expr{null(), truth(0), truth(1), num(0), num(5), num(-5), num(math.MaxInt64), num(math.MinInt64), text(""), text("it's"), field("v", "f"), neg(ax), not(ax), and(ax, bx, cx), or(ax, bx, cx)}
	for k := range signs() {
		l = append(l, op(k, ax, bx))
	}
	return l
}

// leaf prints what has no parts, by the words of P6.2 and P5.
func leaf(x api.Expr) string {
	switch {
	case x.K == api.XField:
		return x.Var + "." + x.Field
	case x.V.K == api.VNull:
		return "NULL"
	case x.V.K == api.VBool:
		return []string{"FALSE", "TRUE"}[x.V.N]
	case x.V.K == api.VInt:
		return strconv.FormatInt(x.V.N, 10)
	}
	s := "'"
	for i := range len(x.V.S) {
		switch c := x.V.S[i]; {
		case c == '\'' || c == '\\':
			s += `\` + string(rune(c))
		case c < 0x20 || c > 0x7e:
			s += fmt.Sprintf(`\x%02x`, c)
		default:
			s += string(rune(c))
		}
	}
	return s + "'"
}

// written prints x, with ( ) around those parts of which enclose tells so.
func written(x api.Expr, enclose func(x api.Expr, i int) bool) string {
	if len(x.L) == 0 {
		return leaf(x)
	}
	var l []string
	for i, y := range x.L {
		s := written(y, enclose)
		if enclose(x, i) {
			s = "(" + s + ")"
		}
		l = append(l, s)
	}
	switch x.K {
	case api.XNeg:
		return "-" + l[0]
	case api.XNot:
		return "NOT " + l[0]
	}
	return strings.Join(l, " "+signs()[x.K]+" ")
}

func TestPrintEachKindWithinEach(t *testing.T) {
	for _, inner := range eachKind() {
		wantPrinted(t, inner, written(inner, enclosed))
		for _, outer := range eachKind() {
			for i := range outer.L {
				if (outer.K == api.XAnd || outer.K == api.XOr) && outer.K == inner.K {
					continue
				}
				x := copied(outer)
				x.L[i] = inner
				wantBoth(t, written(x, enclosed), x)
			}
			if len(outer.L) == 2 && (outer.K < api.XAnd || outer.K != inner.K) {
				x := op(outer.K, inner, inner)
				wantBoth(t, written(x, enclosed), x)
			}
		}
	}
}

// The same, told without levels: where ( ) must stand, and where none may.
func TestEnclosed(t *testing.T) {
	for s, x := range map[string]api.Expr{
		"a.x AND b.x OR c.x":            or(and(ax, bx), cx),
		"a.x OR b.x AND c.x":            or(ax, and(bx, cx)),
		"(a.x OR b.x) AND c.x":          and(or(ax, bx), cx),
		"a.x AND (b.x OR c.x)":          and(ax, or(bx, cx)),
		"NOT a.x OR NOT b.x":            or(not(ax), not(bx)),
		"NOT a.x AND NOT b.x":           and(not(ax), not(bx)),
		"NOT (a.x OR b.x)":              not(or(ax, bx)),
		"NOT (a.x AND b.x)":             not(and(ax, bx)),
		"NOT NOT a.x":                   not(not(ax)),
		"NOT a.x = b.x":                 not(op(api.XEq, ax, bx)),
		"NOT a.x + b.x":                 not(op(api.XAdd, ax, bx)),
		"NOT -5":                        not(num(-5)),
		"(NOT a.x) = b.x":               op(api.XEq, not(ax), bx),
		"a.x = (NOT b.x)":               op(api.XEq, ax, not(bx)),
		"(a.x AND b.x) <= (b.x OR c.x)": op(api.XLe, and(ax, bx), or(bx, cx)),
		"(a.x = b.x) < (b.x >= c.x)":    op(api.XLt, op(api.XEq, ax, bx), op(api.XGe, bx, cx)),
		"a.x + 1 < b.x - 2":             op(api.XLt, op(api.XAdd, ax, num(1)), op(api.XSub, bx, num(2))),
		"a.x * 1 > b.x % 2":             op(api.XGt, op(api.XMul, ax, num(1)), op(api.XMod, bx, num(2))),
		"a.x + b.x + c.x":               op(api.XAdd, op(api.XAdd, ax, bx), cx),
		"a.x + (b.x + c.x)":             op(api.XAdd, ax, op(api.XAdd, bx, cx)),
		"a.x - b.x + c.x":               op(api.XAdd, op(api.XSub, ax, bx), cx),
		"a.x - (b.x + c.x)":             op(api.XSub, ax, op(api.XAdd, bx, cx)),
		"a.x * b.x + b.x / c.x":         op(api.XAdd, op(api.XMul, ax, bx), op(api.XDiv, bx, cx)),
		"(a.x + b.x) * (b.x - c.x)":     op(api.XMul, op(api.XAdd, ax, bx), op(api.XSub, bx, cx)),
		"a.x * b.x / c.x":               op(api.XDiv, op(api.XMul, ax, bx), cx),
		"a.x * (b.x / c.x)":             op(api.XMul, ax, op(api.XDiv, bx, cx)),
		"a.x % (b.x % c.x)":             op(api.XMod, ax, op(api.XMod, bx, cx)),
		"-a.x * -b.x":                   op(api.XMul, neg(ax), neg(bx)),
		"-5 * -6":                       op(api.XMul, num(-5), num(-6)),
		"-(5) * -(6)":                   op(api.XMul, neg(num(5)), neg(num(6))),
		"5 * 6":                         op(api.XMul, num(5), num(6)),
		"5 - 6":                         op(api.XSub, num(5), num(6)),
		"5 - -6":                        op(api.XSub, num(5), num(-6)),
		"-5 - -(6)":                     op(api.XSub, num(-5), neg(num(6))),
		"a.x - -b.x":                    op(api.XSub, ax, neg(bx)),
		"-(a.x * b.x)":                  neg(op(api.XMul, ax, bx)),
		"-(a.x + b.x)":                  neg(op(api.XAdd, ax, bx)),
		"-(a.x = b.x)":                  neg(op(api.XEq, ax, bx)),
		"-(NOT a.x)":                    neg(not(ax)),
		"-(a.x AND b.x)":                neg(and(ax, bx)),
		"-(a.x OR b.x)":                 neg(or(ax, bx)),
		"--a.x":                         neg(neg(ax)),
		"--5":                           neg(num(-5)),
		"--9223372036854775808":         neg(num(math.MinInt64)),
		"-(9223372036854775807)":        neg(num(math.MaxInt64)),
		"-(0)":                          neg(num(0)),
		"-(1)":                          neg(num(1)),
		"--1":                           neg(num(-1)),
		"--(0)":                         neg(neg(num(0))),
		"-NULL":                         neg(null()),
		"-TRUE":                         neg(truth(1)),
		"-FALSE":                        neg(truth(0)),
		"-''":                           neg(text("")),
		"-'5'":                          neg(text("5")),
	} {
		wantBoth(t, s, x)
	}
}

// pairs are the places of each ( and its ) that are no part of a text.
func pairs(s string) [][2]int {
	var l [][2]int
	var open []int
	for _, x := range tokens(s) {
		switch sign(x) {
		case "(":
			open = append(open, x.At)
		case ")":
			l = append(l, [2]int{open[len(open)-1], x.At})
			open = open[:len(open)-1]
		}
	}
	return l
}

func tokens(s string) []api.Token {
	l, _, _ := lex.All(s)
	return l
}

func without(s string, p [2]int) string { return s[:p[0]] + s[p[0]+1:p[1]] + s[p[1]+1:] }

// reads tells, by the model, whether all of s is the condition x.
func reads(s string, x api.Expr) bool {
	l := tokens(s)
	if len(l) == 0 {
		return false
	}
	got, _, at, e := model(l)
	return e == api.OK && at == len(s) && expr.Same(got, x)
}

// least has ( ) around each part first, and then loses each pair without which it is still the same.
func least(x api.Expr) string {
	s := written(x, func(api.Expr, int) bool { return true })
	for {
		i := slices.IndexFunc(pairs(s), func(p [2]int) bool { return reads(without(s, p), x) })
		if i < 0 {
			return s
		}
		s = without(s, pairs(s)[i])
	}
}

// wantLeast: x is printed with no ( ) that could be left out, by the model, which knows of no levels that places ask for.
func wantLeast(t *testing.T, x api.Expr) {
	t.Helper()
	wantPrinted(t, x, least(x))
}

// eachOf tells all conditions of n nodes of these kinds and leaves, those alone that are right.
func eachOf(kinds []int, leaves []api.Expr, n int) []api.Expr {
	if n == 1 {
		return leaves
	}
	var all []api.Expr
	for _, k := range kinds {
		for _, l := range eachParts(k, kinds, leaves, n-1) {
			if x := op(k, l...); expr.Check(x) == api.OK {
				all = append(all, x)
			}
		}
	}
	return all
}

// eachParts tells all rows of parts of n nodes that kind k may have.
func eachParts(k int, kinds []int, leaves []api.Expr, n int) [][]api.Expr {
	if n == 0 {
		return [][]api.Expr{nil}
	}
	var all [][]api.Expr
	for first := 1; first <= n; first++ {
		for _, x := range eachOf(kinds, leaves, first) {
			for _, rest := range eachParts(k, kinds, leaves, n-first) {
				all = append(all, append([]api.Expr{x}, rest...))
			}
		}
	}
	return all
}

func TestEachSmallCondition(t *testing.T) {
	kinds := []int{api.XNeg, api.XAdd, api.XSub, api.XMul, api.XEq, api.XNot, api.XAnd, api.XOr}
	leaves := []api.Expr{num(5), num(-5), ax}
	n := 0
	for size := 1; size <= 7; size++ {
		for i, x := range eachOf(kinds, leaves[max(0, size-5):], size) {
			s := written(x, enclosed)
			wantPrinted(t, x, s)
			if i%10 == 0 {
				wantText(t, s, x)
				wantLeast(t, x)
			}
			n++
		}
	}
	if n < 15000 {
		t.Errorf("%d conditions alone", n)
	}
}

// tame is right, with at most that many nodes, and is not of the kind but.
func tame(by *rand.Rand, most, but int) api.Expr {
	k := api.XNeg + by.Intn(api.XOr-api.XNeg+1)
	if most < 3 || k == but || by.Intn(8) == 0 {
		return someLeaf(by)
	}
	n, but := 2, 0
	switch k {
	case api.XNeg, api.XNot:
		n = 1
	case api.XAnd, api.XOr:
		n += by.Intn(min(most-2, 4))
		but = k
	}
	x := op(k)
	left := most - 1
	for i := range n {
		share := left - (n - i - 1) // each of the others needs one
		if i < n-1 {
			share = 1 + by.Intn(share)
		}
		part := tame(by, share, but)
		left -= sizeOf(part)
		x.L = append(x.L, part)
	}
	return x
}

func someLeaf(by *rand.Rand) api.Expr {
	switch by.Intn(4) {
	case 0:
		return pick(by, []api.Expr{num(0), num(1), num(-1), num(by.Int63()), num(-by.Int63()), num(math.MinInt64), num(math.MaxInt64)})
	case 1:
		return pick(by, []api.Expr{null(), truth(0), truth(1), text(""), text(")"), text("it's"), text(someBytes(by, 6))})
	}
	return field(pick(by, []string{"a", "b", "v0", "n_1"}), pick(by, []string{"x", "y", "k"}))
}

func someBytes(by *rand.Rand, most int) string {
	b := make([]byte, by.Intn(most+1))
	for i := range b {
		b[i] = byte(by.Intn(256))
	}
	return string(b)
}

func TestPrintAtRandom(t *testing.T) {
	by := rand.New(rand.NewSource(4))
	for range 3000 {
		wantLeast(t, tame(by, 8, 0))
	}
	for range 20000 {
		x := tame(by, 1+by.Intn(40), 0)
		wantPrinted(t, x, written(x, enclosed))
	}
	for range 2000 {
		x := tame(by, api.MaxExpr, 0)
		wantPrinted(t, x, written(x, enclosed))
	}
}

// Each byte of a text by itself, first, last and between.
func TestPrintTexts(t *testing.T) {
	for c := range 256 {
		b := string([]byte{byte(c)})
		for _, s := range []string{b, b + b, "a" + b, b + "a", "a" + b + "a"} {
			wantBoth(t, leaf(text(s)), text(s))
			wantBoth(t, "a.x = "+leaf(text(s)), op(api.XEq, ax, text(s)))
		}
	}
	wantPrinted(t, text("it's"), `'it\'s'`)
	wantPrinted(t, text(`\`), `'\\'`)
	wantPrinted(t, text("\n"), `'\x0a'`)
	wantPrinted(t, text("\x7f~ä"), `'\x7f~\xc3\xa4'`)
	wantPrinted(t, text(" AND "), `' AND '`)
	full := strings.Repeat("\xff", api.MaxText)
	wantBoth(t, leaf(text(full)), text(full))
	most := slices.Repeat([]api.Expr{text(full)}, api.MaxExpr-1) // far more than a text that is read may have
	wantPrinted(t, or(most...), written(or(most...), enclosed))
}

// Blanks: one around each word and sign of two parts, one behind NOT, none else.
func TestPrintBlanks(t *testing.T) {
	by := rand.New(rand.NewSource(5))
	for range 3000 {
		x := tame(by, 30, 0)
		s, _ := cond.Print(x)
		want := ""
		l := tokens(s)
		for i, y := range l[:len(l)-1] {
			token := strings.TrimRight(s[y.At:l[i+1].At], " ")
			switch {
			case sign(y) == "NOT":
				want += "NOT "
			case i > 0 && closes(l[i-1]) && !closes(y) && sign(y) != ".": // it is of two parts
				want += " " + token + " "
			default:
				want += token
			}
		}
		if s != want {
			t.Fatalf("Print(%s): %q, not %q", said(x), s, want)
		}
	}
}

// wrongs are conditions that are not right, alone and as parts.
func wrongs() map[string]api.Expr {
	l := map[string]api.Expr{"zero": {}, "a field without names": {K: api.XField}, "a field without a field": field("a", ""), "a field without a Var": field("", "x"), "a name of capitals": field("A", "x"), "a value of no kind": fixed(api.Value{K: 4}), "a bool of 2": truth(2), "a number with a text": fixed(api.Value{K: api.VInt, S: "x"}), "a text that is too long": text(strings.Repeat("t", api.MaxText+1)), "an OR of an OR": or(or(ax, bx), cx), "an AND of an AND": and(ax, and(bx, cx)), "a constant with parts": {K: api.XConst, L: []api.Expr{ax}}, "a field with parts": {K: api.XField, Var: "a", Field: "x", L: []api.Expr{ax}}, "a sum with a name": {K: api.XAdd, Var: "a", L: []api.Expr{ax, bx}}, "a NOT with a value": {K: api.XNot, V: api.Value{K: api.VInt}, L: []api.Expr{ax}}}
	for _, k := range []int{-1, 0, 18, 19, 1000, math.MaxInt, math.MinInt, 1<<32 + 1} {
		for n := range 4 {
			l[fmt.Sprint("kind ", k, " of ", n)] = op(k, slices.Repeat([]api.Expr{ax}, n)...)
		}
	}
	for k := api.XNeg; k <= api.XOr; k++ {
		for n := range 5 {
			one, more := k == api.XNeg || k == api.XNot, k >= api.XAnd
			if one && n != 1 || more && n < 2 || !one && !more && n != 2 {
				l[fmt.Sprint("kind ", k, " of ", n)] = op(k, slices.Repeat([]api.Expr{ax}, n)...)
			}
		}
	}
	return l
}

// around has x as a part, at each place of each kind.
func around(x api.Expr) []api.Expr {
	l := []api.Expr{neg(x), not(x), and(ax, x, bx), not(neg(or(ax, x)))}
	for k := range signs() {
		l = append(l, op(k, x, ax), op(k, ax, x))
	}
	return l
}

func TestPrintRefuses(t *testing.T) {
	for what, x := range wrongs() {
		wantUnprinted(t, what, x, api.ErrArg)
		for _, y := range around(x) {
			wantUnprinted(t, what+" as a part", y, api.ErrArg)
		}
	}
	chain := ax
	for n := 1; n <= 3*api.MaxExpr; n++ {
		if n <= api.MaxExpr {
			wantPrinted(t, chain, strings.Repeat("NOT ", n-1)+"a.x")
		} else {
			wantUnprinted(t, "too many nodes", chain, api.ErrLong)
			wantUnprinted(t, "too many nodes that are wrong", op(99, chain), api.ErrLong)
		}
		chain = not(chain)
	}
	row := slices.Repeat([]api.Expr{ax}, api.MaxExpr)
	wantPrinted(t, or(row[1:]...), strings.Repeat("a.x OR ", api.MaxExpr-2)+"a.x")
	wantUnprinted(t, "a row that is too wide", or(row...), api.ErrLong)
	wantUnprinted(t, "a row of wrong ones that is too wide", or(make([]api.Expr, api.MaxExpr)...), api.ErrLong)
	endless := op(api.XNot, ax)
	endless.L[0] = endless // its parts are its own again
	wantUnprinted(t, "one without an end", endless, api.ErrLong)
}

func wantRow(t *testing.T, s string, l ...api.Expr) {
	t.Helper()
	was := copied(op(0, l...)).L
	if got, e := cond.Row(l); got != s || e != api.OK {
		t.Errorf("Row(%s): %q, %d, not %q", said(op(0, l...)), got, e, s)
	}
	if !slices.EqualFunc(l, was, expr.Same) {
		t.Errorf("Row of %s made it %s", said(op(0, was...)), said(op(0, l...)))
	}
}

func wantNoRow(t *testing.T, what string, e api.Errno, l ...api.Expr) {
	t.Helper()
	if s, got := cond.Row(l); s != "" || got != e {
		t.Errorf("Row of %s: %q, %d, not %d", what, s, got, e)
	}
}

func TestRow(t *testing.T) {
	wantNoRow(t, "none", api.ErrArg)
	wantNoRow(t, "an empty list", api.ErrArg, []api.Expr{}...)
	wantNoRow(t, "an empty list with room", api.ErrArg, make([]api.Expr, 0, 5)...)
	wantRow(t, "a.x", ax)
	wantRow(t, "-5", num(-5))
	wantRow(t, "NOT a.x", not(ax))
	wantRow(t, "a.x < 1", op(api.XLt, ax, num(1)))
	wantRow(t, "(a.x OR b.x)", or(ax, bx))
	wantRow(t, "(a.x AND b.x)", and(ax, bx))
	wantRow(t, "NOT (a.x AND b.x)", not(and(ax, bx)))
	wantRow(t, "a.x AND b.x", ax, bx)
	wantRow(t, "b.x AND a.x AND b.x", bx, ax, bx)
	wantRow(t, "(1 OR 2) AND 3", or(num(1), num(2)), num(3))
	wantRow(t, "3 AND (1 OR 2)", num(3), or(num(1), num(2)))
	wantRow(t, "(1 AND 2) AND 3 AND (4 AND 5)", and(num(1), num(2)), num(3), and(num(4), num(5)))
	wantRow(t, "a.x = 1 AND NOT b.x AND (a.x OR b.x AND c.x) AND -(5)", op(api.XEq, ax, num(1)), not(bx), or(ax, and(bx, cx)), neg(num(5)))
}

// Each kind as each part of a row, with and without others.
func TestRowOfEachKind(t *testing.T) {
	each := eachKind()
	for i, x := range each {
		s := written(x, enclosed)
		if x.K == api.XAnd || x.K == api.XOr {
			s = "(" + s + ")"
		}
		wantRow(t, s, x)
		wantRow(t, "a.x AND "+s, ax, x)
		wantRow(t, s+" AND a.x", x, ax)
		y := each[(i+7)%len(each)]
		wantRow(t, s+" AND a.x AND "+written(and(y, ax), enclosed), x, ax, y, ax)
	}
}

// A row is refused by the first that can't be printed, not for what all of them are together.
func TestRowRefuses(t *testing.T) {
	chain := ax
	for range api.MaxExpr {
		chain = not(chain)
	}
	for what, x := range wrongs() {
		wantNoRow(t, what, api.ErrArg, x)
		wantNoRow(t, what+" last", api.ErrArg, ax, x)
		wantNoRow(t, what+" first", api.ErrArg, x, ax)
		wantNoRow(t, what+" between", api.ErrArg, ax, bx, x, cx)
		wantNoRow(t, what+" ahead of too many nodes", api.ErrArg, ax, x, chain)
		wantNoRow(t, what+" behind too many nodes", api.ErrLong, ax, chain, x)
		wantNoRow(t, what+" as a part", api.ErrArg, ax, not(x))
	}
	wantNoRow(t, "too many nodes", api.ErrLong, chain)
	wantNoRow(t, "too many nodes last", api.ErrLong, ax, chain)
	full := chain.L[0]
	s, e := cond.Print(full)
	if e != api.OK {
		t.Fatal(e)
	}
	wantRow(t, s+" AND "+s+" AND "+s, full, full, full)
	many := slices.Repeat([]api.Expr{ax}, 3*api.MaxExpr)
	wantRow(t, strings.Repeat("a.x AND ", len(many)-1)+"a.x", many...)
}

// P18.3

func wantUndone(t *testing.T, x api.Expr) {
	t.Helper()
	s, e := cond.Print(x)
	if e != api.OK {
		t.Errorf("Print(%s): %d", said(x), e)
		return
	}
	if len(s) <= api.MaxSource { // more is no text of a query
		wantText(t, s, x)
	}
}

// deeps are conditions of all nodes that may be, deep by each kind, and wide.
func deeps() []api.Expr {
	var l []api.Expr
	for _, leaf := range []api.Expr{ax, num(5), num(-5), num(0), text("("), null()} {
		for _, k := range []int{api.XNeg, api.XNot} {
			x, y := leaf, leaf
			for i := range api.MaxExpr - 1 {
				x = op(k, x)
				y = op([]int{k, api.XNeg + api.XNot - k}[i%2], y)
			}
			l = append(l, x, y)
		}
		for k := range signs() {
			left, right, both := leaf, leaf, leaf
			for i := range (api.MaxExpr - 1) / 2 {
				if k < api.XAnd {
					left, right = op(k, left, leaf), op(k, leaf, right)
				}
				if i < (api.MaxExpr-1)/3 {
					both = neg(op(k, leaf, both))
				}
			}
			l = append(l, left, right, both)
		}
		l = append(l, and(slices.Repeat([]api.Expr{leaf}, api.MaxExpr-1)...), or(slices.Repeat([]api.Expr{leaf}, api.MaxExpr-1)...))
		l = append(l, and(slices.Repeat([]api.Expr{or(leaf, leaf)}, 33)...), or(slices.Repeat([]api.Expr{and(leaf, leaf)}, 33)...), and(slices.Repeat([]api.Expr{not(leaf)}, 49)...))
		x := leaf
		for i := range 49 {
			x = op([]int{api.XAnd, api.XOr}[i%2], leaf, x)
		}
		l = append(l, x)
	}
	return l
}

func TestParseUndoesPrint(t *testing.T) {
	for _, x := range eachKind() {
		wantUndone(t, x)
		for _, y := range around(x) {
			if expr.Check(y) == api.OK {
				wantUndone(t, y)
			}
		}
	}
	for _, x := range deeps() {
		wantUndone(t, x)
	}
	by := rand.New(rand.NewSource(6))
	for range 8000 {
		wantUndone(t, tame(by, 1+by.Intn(api.MaxExpr), 0))
	}
}

// Row's text is read as all of its parts in one AND.
func TestRowIsRead(t *testing.T) {
	by := rand.New(rand.NewSource(7))
	for range 5000 {
		var l, parts []api.Expr
		for range 1 + by.Intn(5) {
			x := tame(by, 15, 0)
			l = append(l, x)
			if x.K == api.XAnd {
				parts = append(parts, x.L...)
			} else {
				parts = append(parts, x)
			}
		}
		want := parts[0]
		if len(parts) > 1 {
			want = and(parts...)
		}
		s, e := cond.Row(l)
		if e != api.OK {
			t.Fatalf("Row(%s): %d", said(op(0, l...)), e)
		}
		wantText(t, s, want)
	}
}

// loose is x as words and signs, with needless ( ) by chance.
func loose(by *rand.Rand, x api.Expr) []string {
	l := looseAlone(by, x)
	for by.Intn(4) == 0 {
		l = slices.Concat([]string{"("}, l, []string{")"})
	}
	return l
}

func looseAlone(by *rand.Rand, x api.Expr) []string {
	switch {
	case x.K == api.XField:
		return []string{x.Var, ".", x.Field}
	case x.K == api.XConst && x.V.N < 0:
		return []string{"-", leaf(x)[1:]}
	case x.K == api.XConst:
		return []string{leaf(x)}
	}
	var l []string
	for i, y := range x.L {
		if i > 0 {
			l = append(l, signs()[x.K])
		}
		part := loose(by, y)
		if enclosed(x, i) {
			part = slices.Concat([]string{"("}, part, []string{")"})
		}
		l = append(l, part...)
	}
	switch x.K {
	case api.XNeg:
		return append([]string{"-"}, l...)
	case api.XNot:
		return append([]string{"NOT"}, l...)
	}
	return l
}

// blanked joins words with blanks by chance; two of them that are side by side would be one.
func blanked(by *rand.Rand, l []string) string {
	capital := func(c byte) bool { return 'A' <= c && c <= 'Z' }
	s := ""
	for _, w := range l {
		if s != "" && capital(s[len(s)-1]) && capital(w[0]) {
			s += " "
		}
		s += strings.Repeat(pick(by, []string{" ", "\n", "\t"}), max(0, by.Intn(5)-2)) + w
	}
	return s + strings.Repeat(" ", max(0, by.Intn(4)-2))
}

func TestPrintOfParsed(t *testing.T) {
	by := rand.New(rand.NewSource(8))
	for range 4000 {
		x := tame(by, 1+by.Intn(50), 0)
		s := blanked(by, loose(by, x))
		wantText(t, s, x)
		wantUndone(t, x)
		wantAsModel(t, s)
	}
	n := 0
	for range 20000 {
		x, _, e := cond.Parse(reader(t, someRow(by, 4)))
		if e == api.OK {
			wantUndone(t, x)
			n++
		}
	}
	if n < 2000 {
		t.Errorf("%d were read alone", n)
	}
}

// P4 of DOC.md

// lists tells of all nodes of x where their parts lie.
func lists(x *api.Expr) []*api.Expr {
	var l []*api.Expr
	if len(x.L) > 0 {
		l = append(l, &x.L[0])
	}
	for i := range x.L {
		l = append(l, lists(&x.L[i])...)
	}
	return l
}

func spoil(x *api.Expr) {
	for i := range x.L {
		spoil(&x.L[i])
		x.L[i] = api.Expr{K: 99, Var: "spoilt"}
	}
	_ = append(x.L, api.Expr{K: 98})
}

func TestListsAreApart(t *testing.T) {
	const s = "a.x = 1 AND (b.x OR NOT (c.x OR -a.x = 3) OR a.x) AND (TRUE AND NULL) AND 1 + 2 * 3 - 4"
	want, _, _ := cond.Text(s)
	want = copied(want)
	r := reader(t, s)
	for range 3 {
		r.Back(0)
		x, _, _ := cond.Parse(r)
		y, _, _ := cond.Text(s)
		all := append(lists(&x), lists(&y)...)
		for i, p := range all {
			if slices.Contains(all[:i], p) {
				t.Errorf("two lists of what was read are one")
			}
		}
		spoil(&x)
		if !expr.Same(y, want) {
			t.Errorf("what was read changed: %s", said(y))
		}
		spoil(&y)
	}
}

// What lies behind the end of a list that is handed in stays, too.
func TestListsStayAsTheyWere(t *testing.T) {
	room := []api.Expr{or(ax, bx), not(cx), num(7), {K: 77, Var: "behind"}, {K: 78}}
	x := and(room[:3]...)
	was := copied(op(0, room...))
	for range 2 {
		wantPrinted(t, x, "(a.x OR b.x) AND NOT c.x AND 7")
		wantRow(t, "(a.x OR b.x) AND NOT c.x AND 7", room[:3]...)
		wantRow(t, "(a.x OR b.x)", room[:1]...)
		wantNoRow(t, "wrong ones", api.ErrArg, room...)
		if !expr.Same(op(0, room...), was) {
			t.Errorf("a list is %s, not %s", said(op(0, room...)), said(was))
		}
	}
}

// P1 of DOC.md: whatever the text, it is read as by the model, and what was read is printed with the fewest ( ), and read again.
func FuzzText(f *testing.F) {
	for _, s := range []string{"", "a.x + 1 < 5 AND NOT (b.y = 'z' OR a.x = -3)", "-(5) - -5 * (1 - 2)", "(a.x < 1) = TRUE", "NOT NOT NULL = a.k", "--a.x % 3", "-9223372036854775808 <> 0", "9223372036854775808", "a.", "a.x < 1 < 2", "(a.x", "a.x)", "TRUE AND", "SEQ", "a ?", "'\\x41'", strings.Repeat("(", mostOpen+1), strings.Repeat("NOT ", api.MaxExpr) + "1"} {
		f.Add(s)
	}
	f.Fuzz(func(t *testing.T, s string) {
		wantAsModel(t, s)
		if x, _, e := cond.Text(s); e == api.OK {
			wantPrinted(t, x, written(x, enclosed))
			wantUndone(t, x)
		}
	})
}
