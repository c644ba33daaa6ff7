package epl_test

import (
	"fmt"
	"math"
	"math/rand"
	"slices"
	"strconv"
	"strings"
	"testing"

	"haruspex/api"
	"haruspex/cond"
	"haruspex/epl"
	"haruspex/expr"
	"haruspex/lex"
	"haruspex/pat"
	"haruspex/query"
)

// Patterns, by their kinds.
func atom(v, t string) api.Pat { return api.Pat{K: api.PAtom, Var: v, Type: t} }

func not(v, t string) api.Pat { return api.Pat{K: api.PNot, Var: v, Type: t} }

func many(v, t string, lo, hi int) api.Pat {
	return api.Pat{K: api.PMany, Var: v, Type: t, Lo: lo, Hi: hi}
}

func seq(l ...api.Pat) api.Pat { return api.Pat{K: api.PSeq, L: l} }

func and(l ...api.Pat) api.Pat { return api.Pat{K: api.PAnd, L: l} }

func or(l ...api.Pat) api.Pat { return api.Pat{K: api.POr, L: l} }

// The patterns that texts here speak of.
var a, b, c, d = atom("a", "buy"), atom("b", "sell"), atom("c", "buy"), atom("d", "tick")

func of(p api.Pat) api.Query { return api.Query{P: p} }

// condition reads one that a test is about, but for its own text.
func condition(s string) api.Expr {
	x, _, e := cond.Text(s)
	if e != api.OK {
		panic(s)
	}
	return x
}

func conditions(l ...string) []api.Expr {
	var x []api.Expr
	for _, s := range l {
		x = append(x, condition(s))
	}
	return x
}

func item(name string, k int, v, f string) api.Item {
	return api.Item{Name: name, K: k, Var: v, Field: f}
}

func copiedExpr(x api.Expr) api.Expr {
	x.L = slices.Clone(x.L)
	for i := range x.L {
		x.L[i] = copiedExpr(x.L[i])
	}
	return x
}

func copiedPat(p api.Pat) api.Pat {
	p.L = slices.Clone(p.L)
	for i := range p.L {
		p.L[i] = copiedPat(p.L[i])
	}
	return p
}

func copied(q api.Query) api.Query {
	q.P = copiedPat(q.P)
	q.Where = copiedExpr(api.Expr{L: q.Where}).L
	q.Items = slices.Clone(q.Items)
	return q
}

func said(x any) string { return fmt.Sprintf("%.500s", fmt.Sprint(x)) }

func zero(q api.Query) bool { return query.Same(q, api.Query{}) }

func wantQuery(t *testing.T, s string, q api.Query) {
	t.Helper()
	x, at, e := epl.Parse(s)
	if !query.Same(x, q) || at != len(s) || e != api.OK {
		t.Errorf("Parse(%q): %s, %d, %d; want %s, %d, 0", s, said(x), at, e, said(q), len(s))
	}
}

func wantFault(t *testing.T, s string, at int, e api.Errno) {
	t.Helper()
	x, n, got := epl.Parse(s)
	if !zero(x) || n != at || got != e {
		t.Errorf("Parse(%.300q): %s, %d, %d; want none, %d, %d", s, said(x), n, got, at, e)
	}
}

// marked is a text without its ^, and where that stood.
func marked(t *testing.T, s string) (string, int) {
	t.Helper()
	at := strings.Index(s, "^")
	if at < 0 {
		t.Fatalf("no place in %q", s)
	}
	return s[:at] + s[at+1:], at
}

// wantStuck takes a text with a ^ ahead of the token with which nothing can go on.
func wantStuck(t *testing.T, s string) {
	t.Helper()
	s, at := marked(t, s)
	wantFault(t, s, at, api.ErrForm)
}

func wantPrinted(t *testing.T, q api.Query, s string) {
	t.Helper()
	if got, e := epl.Print(q); got != s || e != api.OK {
		t.Errorf("Print(%s): %q, %d; want %q, 0", said(q), got, e, s)
	}
	if !epl.Says(q) {
		t.Errorf("Says(%s): false", said(q))
	}
}

// wantBoth asks for a query's text, both ways.
func wantBoth(t *testing.T, s string, q api.Query) {
	t.Helper()
	wantQuery(t, s, q)
	wantPrinted(t, q, s)
}

// wantRead asks for a text that is read as q, and written otherwise.
func wantRead(t *testing.T, s string, q api.Query, as string) {
	t.Helper()
	wantQuery(t, s, q)
	wantBoth(t, as, q)
}

func wantUnprinted(t *testing.T, what string, q api.Query, e api.Errno) {
	t.Helper()
	if s, got := epl.Print(q); s != "" || got != e {
		t.Errorf("Print of %s: %q, %d; want none, %d", what, s, got, e)
	}
	if epl.Says(q) {
		t.Errorf("Says of %s: true", what)
	}
}

func TestExamples(t *testing.T) {
	n := not("b", "sell")
	wantBoth(t, "EVERY a=buy -> NOT b=sell -> c=buy OR d=sell WHERE a.x < 3 WITHIN 10", api.Query{
		P: seq(a, n, or(c, atom("d", "sell"))), Where: conditions("a.x < 3"), Within: 10,
	})
	wantBoth(t, "EVERY a=buy -> NOT b=sell -> c=buy", of(seq(a, n, c)))
}

func TestPatterns(t *testing.T) {
	for s, p := range map[string]api.Pat{
		"a=buy":                      a,
		"a=buy -> b=sell":            seq(a, b),
		"a=buy -> b=sell -> c=buy":   seq(a, b, c),
		"a=buy OR b=sell":            or(a, b),
		"a=buy OR b=sell OR c=buy":   or(a, b, c),
		"a=buy AND b=sell":           and(a, b),
		"a=buy AND b=sell AND c=buy": and(a, b, c),
		// Each within each other one, without ( ) where it is tighter.
		"a=buy -> b=sell OR c=buy":             seq(a, or(b, c)),
		"a=buy OR b=sell -> c=buy":             seq(or(a, b), c),
		"a=buy -> b=sell AND c=buy":            seq(a, and(b, c)),
		"a=buy AND b=sell -> c=buy":            seq(and(a, b), c),
		"a=buy OR b=sell AND c=buy":            or(a, and(b, c)),
		"a=buy AND b=sell OR c=buy":            or(and(a, b), c),
		"a=buy OR b=sell -> c=buy OR d=tick":   seq(or(a, b), or(c, d)),
		"a=buy AND b=sell -> c=buy AND d=tick": seq(and(a, b), and(c, d)),
		"a=buy AND b=sell OR c=buy AND d=tick": or(and(a, b), and(c, d)),
		"a=buy -> b=sell OR c=buy AND d=tick":  seq(a, or(b, and(c, d))),
		"a=buy AND b=sell OR c=buy -> d=tick":  seq(or(and(a, b), c), d),
		"a=buy -> b=sell AND c=buy OR d=tick":  seq(a, or(and(b, c), d)),
		// With ( ) where it is looser.
		"(a=buy -> b=sell) OR c=buy":              or(seq(a, b), c),
		"a=buy OR (b=sell -> c=buy)":              or(a, seq(b, c)),
		"(a=buy -> b=sell) AND c=buy":             and(seq(a, b), c),
		"a=buy AND (b=sell -> c=buy)":             and(a, seq(b, c)),
		"(a=buy OR b=sell) AND c=buy":             and(or(a, b), c),
		"a=buy AND (b=sell OR c=buy)":             and(a, or(b, c)),
		"(a=buy -> b=sell) OR (c=buy -> d=tick)":  or(seq(a, b), seq(c, d)),
		"(a=buy OR b=sell) AND (c=buy OR d=tick)": and(or(a, b), or(c, d)),
		"(a=buy -> b=sell) AND (c=buy -> d=tick)": and(seq(a, b), seq(c, d)),
		"a=buy OR b=sell AND (c=buy -> d=tick)":   or(a, and(b, seq(c, d))),
		"a=buy AND ((b=sell -> c=buy) OR d=tick)": and(a, or(seq(b, c), d)),
		"a=buy AND (b=sell -> c=buy OR d=tick)":   and(a, seq(b, or(c, d))),
		"a=buy -> (b=sell -> c=buy) OR d=tick":    seq(a, or(seq(b, c), d)),
		"a=buy -> (b=sell OR c=buy) AND d=tick":   seq(a, and(or(b, c), d)),
		"a=buy OR (b=sell OR c=buy) AND d=tick":   or(a, and(or(b, c), d)),
		"a=buy AND (b=sell -> c=buy AND d=tick)":  and(a, seq(b, and(c, d))),
		"a=buy AND (b=sell OR c=buy AND d=tick)":  and(a, or(b, and(c, d))),
		"a=buy OR (b=sell -> c=buy AND d=tick)":   or(a, seq(b, and(c, d))),
		"a=buy OR (b=sell -> c=buy OR d=tick)":    or(a, seq(b, or(c, d))),
		// NOT and [ ].
		"a=buy -> NOT b=sell -> c=buy":               seq(a, not("b", "sell"), c),
		"a=buy -> NOT b=sell":                        seq(a, not("b", "sell")),
		"a=buy -> NOT b=sell -> c=buy -> NOT d=tick": seq(a, not("b", "sell"), c, not("d", "tick")),
		"a=buy OR c=buy -> NOT b=sell":               seq(or(a, c), not("b", "sell")),
		"a=buy AND c=buy -> NOT b=sell -> d=tick":    seq(and(a, c), not("b", "sell"), d),
		"d=tick OR (a=buy -> NOT b=sell -> c=buy)":   or(d, seq(a, not("b", "sell"), c)),
		"d=tick AND (a=buy -> NOT b=sell -> c=buy)":  and(d, seq(a, not("b", "sell"), c)),
		"[2] a=buy":                            many("a", "buy", 2, 2),
		"[3] a=buy":                            many("a", "buy", 3, 3),
		"[999] a=buy":                          many("a", "buy", 999, 999),
		"[1000] a=buy":                         many("a", "buy", api.MaxMany, api.MaxMany),
		"[2] a=buy OR [3] b=sell":              or(many("a", "buy", 2, 2), many("b", "sell", 3, 3)),
		"[2] a=buy AND [2] b=sell":             and(many("a", "buy", 2, 2), many("b", "sell", 2, 2)),
		"[2] a=buy -> NOT b=sell -> [4] c=buy": seq(many("a", "buy", 2, 2), not("b", "sell"), many("c", "buy", 4, 4)),
		"a=buy AND [3] b=sell OR (c=buy -> d=tick)": or(and(a, many("b", "sell", 3, 3)), seq(c, d)),
		"a=buy OR a=buy":     or(a, a),
		"a=buy OR [2] a=buy": or(a, many("a", "buy", 2, 2)),
	} {
		wantBoth(t, "EVERY "+s, of(p))
	}
}

func TestPatternsWithNeedlessSigns(t *testing.T) {
	for s, as := range map[string]string{
		// One part alone in ( ).
		"(a=buy)":            "a=buy",
		"((a=buy))":          "a=buy",
		"([2] a=buy)":        "[2] a=buy",
		"(a=buy) -> b=sell":  "a=buy -> b=sell",
		"a=buy OR (b=sell)":  "a=buy OR b=sell",
		"a=buy AND (b=sell)": "a=buy AND b=sell",
		"(a=buy -> b=sell)":  "a=buy -> b=sell",
		"(a=buy OR b=sell)":  "a=buy OR b=sell",
		"(a=buy AND b=sell)": "a=buy AND b=sell",
		// Each within itself.
		"(a=buy -> b=sell) -> c=buy":                  "a=buy -> b=sell -> c=buy",
		"a=buy -> (b=sell -> c=buy)":                  "a=buy -> b=sell -> c=buy",
		"a=buy -> (b=sell -> (c=buy -> d=tick))":      "a=buy -> b=sell -> c=buy -> d=tick",
		"((a=buy -> b=sell) -> c=buy) -> d=tick":      "a=buy -> b=sell -> c=buy -> d=tick",
		"(a=buy -> b=sell) -> ((c=buy -> d=tick))":    "a=buy -> b=sell -> c=buy -> d=tick",
		"(a=buy OR b=sell) OR c=buy":                  "a=buy OR b=sell OR c=buy",
		"a=buy OR (b=sell OR c=buy)":                  "a=buy OR b=sell OR c=buy",
		"a=buy OR ((b=sell) OR (c=buy OR d=tick))":    "a=buy OR b=sell OR c=buy OR d=tick",
		"(a=buy AND b=sell) AND c=buy":                "a=buy AND b=sell AND c=buy",
		"a=buy AND (b=sell AND c=buy)":                "a=buy AND b=sell AND c=buy",
		"(a=buy AND (b=sell)) AND (c=buy AND d=tick)": "a=buy AND b=sell AND c=buy AND d=tick",
		// Each within each other one, where no ( ) need be.
		"a=buy -> (b=sell OR c=buy)":                "a=buy -> b=sell OR c=buy",
		"(a=buy OR b=sell) -> c=buy":                "a=buy OR b=sell -> c=buy",
		"a=buy -> (b=sell AND c=buy)":               "a=buy -> b=sell AND c=buy",
		"(a=buy AND b=sell) -> c=buy":               "a=buy AND b=sell -> c=buy",
		"a=buy OR (b=sell AND c=buy)":               "a=buy OR b=sell AND c=buy",
		"(a=buy AND b=sell) OR c=buy":               "a=buy AND b=sell OR c=buy",
		"((a=buy -> b=sell)) OR c=buy":              "(a=buy -> b=sell) OR c=buy",
		"((a=buy -> (b=sell)) AND ((c=buy)))":       "(a=buy -> b=sell) AND c=buy",
		"(a=buy OR (b=sell -> c=buy)) OR d=tick":    "a=buy OR (b=sell -> c=buy) OR d=tick",
		"a=buy AND (b=sell AND (c=buy OR d=tick))":  "a=buy AND b=sell AND (c=buy OR d=tick)",
		"a=buy -> ((b=sell OR c=buy) AND (d=tick))": "a=buy -> (b=sell OR c=buy) AND d=tick",
		// NOT in ( ), and as a part of parts.
		"a=buy -> (NOT b=sell) -> c=buy":     "a=buy -> NOT b=sell -> c=buy",
		"a=buy -> ((NOT b=sell))":            "a=buy -> NOT b=sell",
		"a=buy -> (NOT b=sell -> c=buy)":     "a=buy -> NOT b=sell -> c=buy",
		"(a=buy -> NOT b=sell) -> c=buy":     "a=buy -> NOT b=sell -> c=buy",
		"(a=buy -> NOT b=sell)":              "a=buy -> NOT b=sell",
		"a=buy -> (c=buy -> NOT b=sell)":     "a=buy -> c=buy -> NOT b=sell",
		"(a=buy) -> (NOT b=sell -> (c=buy))": "a=buy -> NOT b=sell -> c=buy",
	} {
		q, _, e := epl.Parse("EVERY " + as)
		if e != api.OK {
			t.Errorf("Parse(%q): %d", as, e)
		}
		wantRead(t, "EVERY "+s, q, "EVERY "+as)
	}
}

// TestPatternsStuck: nothing goes on with the token behind the ^, in patterns.
func TestPatternsStuck(t *testing.T) {
	for _, s := range []string{
		// the end
		"^", "a^", "a=^", "a=buy -> ^", "a=buy OR ^", "a=buy AND ^", "a=buy -> b^", "a=buy OR b=^", "(^", "(a=buy^", "(a=buy OR ^", "((a=buy) ^", "NOT ^", "NOT a^", "NOT a=^", "[^", "[2^", "[2]^", "[2] a^", "[2] a=^", "a=buy -> (b=sell OR c=buy^",
		// what begins no pattern
		"^)", "^->", "^OR", "^AND", "^=", "^= buy", "^!a=buy", "^]", "^{2}", "^5", "^'a'=buy", "^A=buy", "^WHERE a.x = 1", "^WITHIN 5", "^EVERY a=buy", "^SEQ(a=buy)", "^|", "^,", "^+", "^'(' a=buy)", "^'NOT' a=buy", "^<= a", "^2 a=buy",
		// a Var without its =
		"a ^)", "a ^5", "a ^'buy'", "a ^A", "a ^-> b=sell", "a ^OR b=sell", "a ^buy", "a ^.buy", "a ^(=buy)", "a ^, buy", "a ^<> buy", "a ^<= buy", "a ^>= buy", "a ^-> buy", "a ^'=' buy", "a ^WITHIN 5", "a ^WHERE a.x", "buy ^a",
		// a Var and = without a Type
		"a=^)", "a=^5", "a=^'buy'", "a=^BUY", "a=^-> b=sell", "a=^= buy", "a=^(buy)", "a=^NOT", "a=^[2]", "a=^WITHIN 5", "a=^EVERY", "a=^OR b=sell",
		// behind an atom
		"a=buy ^)", "a=buy ^b", "a=buy ^b=sell", "a=buy ^5", "a=buy ^'b'", "a=buy ^, b=sell", "a=buy ^(b=sell)", "a=buy ^NOT b=sell", "a=buy ^[2] b=sell", "a=buy ^B", "a=buy ^]", "a=buy ^+", "a=buy ^{2,3}", "a=buy ^| b=sell", "a=buy^=sell", "a=buy^.x", "a=buy ^- b=sell", "a=buy ^- > b=sell", "a=buy ^> b=sell", "a=buy ^>= b=sell", "a=buy ^XOR b=sell", "a=buy ^or", "a=buy ^and", "a=buy ^'->' b=sell", "a=buy ^'OR' b=sell", "a=buy ^ORS b=sell", "a=buy ^ANDOR b=sell",
		// between
		"a=buy -> ^)", "a=buy -> ^-> b=sell", "a=buy -> ^OR b=sell", "a=buy OR ^-> b=sell", "a=buy OR ^OR b=sell", "a=buy OR ^AND b=sell", "a=buy AND ^OR b=sell", "a=buy AND ^AND b=sell", "a=buy AND ^-> b=sell", "a=buy -> ^5", "a=buy -> ^WHERE a.x = 1", "a=buy OR ^WITHIN 5", "a=buy -> b ^-> c=buy", "a=buy AND ^)", "a=buy -> ^EVERY b=sell", "a=buy -> ^> b=sell", "a=buy ->^-> b=sell",
		// ( )
		"(^)", "((^))", "(^-> a=buy)", "(a=buy ->^)", "(a=buy OR ^)", "(a=buy AND ^)", "(a=buy ^, b=sell)", "(a=buy^]", "(a=buy^}", "(a=buy) ^)", "(a=buy) ^=", "(a=buy) ^b", "(a=buy) ^b=sell", "(a=buy ^WITHIN 5)", "(a=buy ^WHERE a.x)", "(a=buy) ^(b=sell)", "(a=buy) ^[2]", "(a=buy) ^NOT b=sell", "(a ^)=buy", "(a=^)", "(a^) = buy", "(^EVERY a=buy)", "(a=buy -> b=sell) ^c=buy", "((a=buy) ^b=sell)",
		// NOT
		"NOT ^NOT a=buy", "NOT ^(a=buy)", "NOT ^(a=buy -> b=sell)", "NOT ^[2] a=buy", "NOT ^)", "NOT ^5", "NOT ^=", "NOT ^-> a=buy", "NOT ^OR a=buy", "NOT ^A=buy", "NOT ^WITHIN 5", "NOT a ^-> b=sell", "NOT a ^b", "NOT a=^)", "NOT a=buy ^b=sell", "NOT a=buy ^NOT b=sell", "NOT a=buy ^)", "a=buy -> NOT ^(b=sell) -> c=buy", "a=buy -> NOT ^[2] b=sell", "a=buy -> NOT ^NOT b=sell", "a=buy -> ^! b=sell", "a=buy AND NOT ^(b=sell)", "(NOT ^(b=sell))", "a=buy ^NOT -> b=sell",
		// [ ]
		"[^]", "[^] a=buy", "[^1] a=buy", "[^0] a=buy", "[^1001] a=buy", "[^9223372036854775807] a=buy", "[^9223372036854775808] a=buy", "[^9999999999999999999] a=buy", "[^-2] a=buy", "[^+2] a=buy", "[^a] a=buy", "[^A] a=buy", "[^'2'] a=buy", "[^(2)] a=buy", "[^[2]] a=buy", "[^,2] a=buy",
		"[2 ^3] a=buy", "[2^, 3] a=buy", "[2^,] a=buy", "[2^) a=buy", "[2^} a=buy", "[2 ^a=buy", "[2^+] a=buy", "[2^[ a=buy", "[2^.3] a=buy",
		"[2] ^)", "[2] ^(a=buy)", "[2] ^NOT a=buy", "[2] ^[2] a=buy", "[2] ^5", "[2] ^=buy", "[2] ^-> a=buy", "[2] ^A=buy", "[2] ^'a'=buy", "[2] ^WITHIN 5", "[2] ^OR a=buy", "[2] a ^-> b=sell", "[2] a ^buy", "[2] a ^]", "[2] a=^BUY", "[2] a=^-> b=sell", "[2] a=buy ^[2]", "[2] a=buy ^]", "[2] a=buy ^b=sell", "a=buy^[2]", "a^[2]=buy", "a=^[2] buy",
		"a=buy -> [^1] b=sell", "a=buy OR [2 ^3] b=sell", "(a=buy AND [2] ^(b=sell))",
	} {
		wantStuck(t, "EVERY "+s)
	}
}

func TestNoEvery(t *testing.T) {
	for _, s := range []string{"^", "^a=buy", "^every a=buy", "^NOT a=buy", "^(a=buy)", "^[2] a=buy", "^WHERE a.x = 1", "^WITHIN 5", "^5", "^'EVERY' a=buy", "^EVERYS a=buy", "^MATCH", "^PATTERN buy a", "^(EVERY a=buy)", "^-> a=buy", "^EVER Y a=buy"} {
		wantStuck(t, s)
	}
	for _, s := range []string{"", " ", "\t\n ", strings.Repeat(" ", api.MaxSource)} {
		wantFault(t, s, len(s), api.ErrForm)
	}
	wantStuck(t, " \n ^a=buy")
	wantStuck(t, " EVERY \n ^EVERY")
	wantFault(t, strings.Repeat(" ", api.MaxSource+1), 0, api.ErrLong)
}

// full is a query with both clauses; clauses are their texts.
var full = api.Query{P: seq(a, b), Where: conditions("a.x < b.x", "a.y = 'p'"), Within: 5}

var clauses = []string{"WHERE a.x < b.x AND a.y = 'p'", "WITHIN 5"}

func TestClauses(t *testing.T) {
	s := "EVERY a=buy -> b=sell"
	wantBoth(t, s, of(full.P))
	wantBoth(t, s+" "+clauses[0], api.Query{P: full.P, Where: full.Where})
	wantBoth(t, s+" "+clauses[1], api.Query{P: full.P, Within: full.Within})
	wantBoth(t, s+" "+clauses[0]+" "+clauses[1], full)
	wantStuck(t, s+" "+clauses[1]+" ^"+clauses[0])
	wantStuck(t, s+" "+clauses[0]+" "+clauses[1]+" ^"+clauses[0])
	for _, x := range clauses {
		wantStuck(t, s+" "+x+" ^"+x)
		wantStuck(t, s+" "+clauses[0]+" "+clauses[1]+" ^"+x)
		wantStuck(t, "^"+x+" "+s)
		wantStuck(t, "EVERY ^"+x+" a=buy")
		wantStuck(t, s+" "+x+" ^"+s)
		wantStuck(t, s+" "+x+" ^)")
		wantStuck(t, s+" "+x+" ^-> c=buy")
		wantStuck(t, "EVERY (a=buy ^"+x+")")
	}
}

// TestClausesOfOthers: those that other dialects have.
func TestClausesOfOthers(t *testing.T) {
	for _, s := range []string{"PARTITION BY k", "MODE ANY", "MODE NEAR", "MODE STRICT", "RETURN COUNT(a) AS n", "RETURN LAST(a.x) AS n", "PATTERN buy a", "MATCH", "MEASURES COUNT(a) AS n", "ROWS NEAR", "DEFINE a AS buy"} {
		wantStuck(t, "^"+s)
		wantStuck(t, "EVERY ^"+s)
		wantStuck(t, "EVERY a=buy ^"+s)
		wantStuck(t, "EVERY a=buy ^"+s+" WITHIN 5")
		wantStuck(t, "EVERY a=buy WHERE a.x = 1 ^"+s)
		wantStuck(t, "EVERY a=buy WHERE a.x = 1 ^"+s+" WITHIN 5")
		wantStuck(t, "EVERY a=buy WITHIN 5 ^"+s)
		wantStuck(t, "EVERY a=buy WHERE a.x = 1 WITHIN 5 ^"+s)
	}
}

func TestWhere(t *testing.T) {
	for s, l := range map[string][]string{
		"a.x = 1":                               {"a.x = 1"},
		"NOT a.x = 1":                           {"NOT a.x = 1"},
		"(a.x = 1 OR a.x = 2)":                  {"a.x = 1 OR a.x = 2"},
		"a.x = 1 AND b.x = 2":                   {"a.x = 1", "b.x = 2"},
		"a.x = 1 AND NOT (b.x = 2 AND a.y = 3)": {"a.x = 1", "NOT (b.x = 2 AND a.y = 3)"},
		"(a.x = 1 OR a.x = 2) AND b.x = 2":      {"a.x = 1 OR a.x = 2", "b.x = 2"},
		"(a.x OR b.x AND a.y) AND NOT b.y":      {"a.x OR b.x AND a.y", "NOT b.y"},
		"a.x = 1 AND a.x = 1":                   {"a.x = 1", "a.x = 1"},
		"a.x":                                   {"a.x"},
		"TRUE":                                  {"TRUE"},
		"zz.x = 'EVERY (' AND NULL":             {"zz.x = 'EVERY ('", "NULL"},
		"zz.x = ' WITHIN 5'":                    {"zz.x = ' WITHIN 5'"},
	} {
		wantBoth(t, "EVERY a=buy WHERE "+s, api.Query{P: a, Where: conditions(l...)})
		wantBoth(t, "EVERY a=buy WHERE "+s+" WITHIN 7", api.Query{P: a, Where: conditions(l...), Within: 7})
		wantBoth(t, "EVERY a=buy OR b=sell WHERE "+s, api.Query{P: or(a, b), Where: conditions(l...)})
	}
	for s, l := range map[string][]string{
		"a.x = 1 OR a.x = 2":                  {"a.x = 1 OR a.x = 2"},
		"(a.x = 1)":                           {"a.x = 1"},
		"(a.x = 1 AND b.x = 2)":               {"a.x = 1", "b.x = 2"},
		"a.x = 1 AND (b.x = 2 AND a.y = 3)":   {"a.x = 1", "b.x = 2", "a.y = 3"},
		"(a.x = 1 AND b.x = 2) AND (a.y = 3)": {"a.x = 1", "b.x = 2", "a.y = 3"},
		"a.x = 1 OR a.y AND b.x":              {"a.x = 1 OR a.y AND b.x"},
	} {
		wantQuery(t, "EVERY a=buy WHERE "+s, api.Query{P: a, Where: conditions(l...)})
	}
	for _, s := range []string{
		"^", "^WITHIN 5", "^)", "^,", "^AND", "^MODE NEAR", "^[2] a=buy", "^-> a.x",
		"a.x = ^", "a.x = ^WITHIN 5", "a^", "a.^", "a ^= 1", "a^=buy", "NOT a^=buy", "a.x = 1 AND ^", "a.x = 1 OR ^WITHIN 5", "(a.x = 1^", "(a.x = 1 ^WITHIN 5", "NOT ^", "-^",
		"a.x = 1 ^)", "a.x = 1 ^, b.x = 2", "a.x = 1 ^b.x = 2", "a.x < 1 ^< 2", "a.x = 1 ^WHERE b.x = 2", "a.x = 1 ^a=buy", "a.x = 1 ^XOR b.x = 2", "a.x = 1 ^| b.x = 2", "TRUE ^TRUE", "a.x = 1 ^-> b.x", "a.x = 1 AND b^=sell", "a.x = 1 ^EVERY a=buy",
		"a.x = ^9223372036854775808", "a.x = -^9223372036854775809",
	} {
		wantStuck(t, "EVERY a=buy WHERE "+s)
	}
}

func TestWithin(t *testing.T) {
	for _, n := range []int64{1, 2, 10, 1000, api.MaxWithin - 1, api.MaxWithin} {
		wantBoth(t, "EVERY a=buy WITHIN "+strconv.FormatInt(n, 10), api.Query{P: a, Within: n})
	}
	for _, s := range []string{
		"^", "^0", "^1099511627777", "^9223372036854775807", "^9223372036854775808", "^9999999999999999999",
		"^a", "^A", "^'5'", "^-5", "^+5", "^(5)", "^[5]", "^WHERE TRUE", "5 ^5", "5^, 6", "5 ^s", "5 ^SECONDS", "5 ^+ 5", "^WITHIN 5",
	} {
		wantStuck(t, "EVERY a=buy WITHIN "+s)
		wantStuck(t, "EVERY a=buy WHERE a.x WITHIN "+s)
	}
}

func TestNames(t *testing.T) {
	long := strings.Repeat("n", api.MaxName)
	wantBoth(t, "EVERY "+long+"="+long+" WHERE "+long+"."+long, api.Query{
		P: atom(long, long), Where: []api.Expr{{K: api.XField, Var: long, Field: long}},
	})
	wantBoth(t, "EVERY [2] "+long+"="+long, of(many(long, long, 2, 2)))
	wantStuck(t, "EVERY a=^"+long+"n")
	wantStuck(t, "EVERY ^n"+long+"=buy")
	wantBoth(t, "EVERY n_1=a__9", of(atom("n_1", "a__9")))
	// Words are none, and names that are like words are no words.
	wantBoth(t, "EVERY not=or AND and=every -> NOT within=where", of(seq(and(atom("not", "or"), atom("and", "every")), not("within", "where"))))
}

func TestBlanks(t *testing.T) {
	p := seq(a, not("b", "sell"), or(and(many("c", "buy", 2, 2), d), atom("e", "buy")))
	wantQuery(t, "EVERY a = buy -> NOT b = sell -> ( [ 2 ] c = buy AND d = tick OR e = buy )", of(p))
	wantQuery(t, "EVERY a=buy->NOT b=sell->([2]c=buy AND d=tick OR e=buy)", of(p))
	wantQuery(t, "\n\tEVERY(a\n=\tbuy)->(NOT b=sell)->[2]c=buy AND(d=tick)OR(e=buy)WHERE(a.x=1)WITHIN\n5  ", api.Query{P: p, Where: conditions("a.x = 1"), Within: 5})
	wantQuery(t, "EVERY a=buy OR b=sell", of(or(a, b)))
	wantStuck(t, "EVERY a=buy ^- > b=sell")
	wantStuck(t, "EVERY a=buy \n\t ^b ")
	wantStuck(t, "EVERY a= \n ^")
	wantQuery(t, "EVERYa=buyORb=sellANDc=buyWITHIN5", api.Query{P: or(a, and(b, c)), Within: 5})
	s := "EVERY a=buy"
	wantQuery(t, s+strings.Repeat(" ", api.MaxSource-len(s)), of(a))
	wantFault(t, s+strings.Repeat(" ", api.MaxSource-len(s)+1), 0, api.ErrLong)
}

// TestLexRefuses: ahead of all else, also of what is wrong further ahead.
func TestLexRefuses(t *testing.T) {
	for _, s := range []string{
		"^?", "EVERY a=buy ^;", "EVERY a=buy WHERE a.x ^& 1", "EVERY ) ( ^#", "a=^\"buy\"", "EVERY a=buy WITHIN ^05", "EVERY a=buy WITHIN ^12345678901234567890",
		"EVERY a=buy WHERE a.x = 'p^", "EVERY ^_a=buy", "EVERY ((( ^\x00", "EVERY [^00] a=buy", "EVERY [^02] a=buy", "EVERY a=^\xff", "EVERY ^" + strings.Repeat("A", api.MaxName+1), "EVERY NOT a=buy ^:", "EVERY a^:buy",
	} {
		wantStuck(t, s)
	}
	s := "EVERY a=buy WHERE a.x = '"
	long := s + strings.Repeat("p", api.MaxText+1) + "'"
	_, at, e := lex.All(long)
	if e != api.ErrLong {
		t.Errorf("lex.All: %d, %d", at, e)
	}
	wantFault(t, long, at, api.ErrLong)
	wantFault(t, "EVERY ) "+long[len("EVERY "):], at+2, api.ErrLong)
	wantQuery(t, s+strings.Repeat("p", api.MaxText)+"'", api.Query{P: a, Where: conditions("a.x = '" + strings.Repeat("p", api.MaxText) + "'")})
	wantFault(t, "EVERY ) "+strings.Repeat("(", api.MaxSource), 0, api.ErrLong)
}

// sum is a condition of n nodes, an odd number.
func sum(n int) string { return "a.x" + strings.Repeat(" + 1", n/2) }

func TestLongConditions(t *testing.T) {
	at := "EVERY a=buy WHERE "
	for n := 1; n < api.MaxExpr; n += 2 {
		wantQuery(t, at+sum(n), api.Query{P: a, Where: conditions(sum(n))})
	}
	// With NOT ahead: 98, 100 and 102.
	wantQuery(t, at+"NOT "+sum(api.MaxExpr-3), api.Query{P: a, Where: conditions("NOT " + sum(api.MaxExpr-3))})
	wantFault(t, at+"NOT "+sum(api.MaxExpr-1), 0, api.ErrLong)
	wantFault(t, at+"NOT "+sum(api.MaxExpr+1), len(at), api.ErrLong)
	wantFault(t, at+sum(api.MaxExpr+1), len(at), api.ErrLong)
	wantFault(t, at+sum(api.MaxExpr+1)+" WITHIN", len(at), api.ErrLong)
	wantFault(t, at+" \n "+sum(api.MaxExpr+1)+" ", len(at)+3, api.ErrLong)
	// Two parts of AND, with 99 nodes in all, and more.
	l := []string{"NOT " + sum(47), sum(51)}
	wantBoth(t, at+strings.Join(l, " AND "), api.Query{P: a, Where: conditions(l...)})
	l = append(l, "a.x")
	wantFault(t, at+strings.Join(l, " AND "), len(at), api.ErrLong)
	// As many ( open as cond takes, and one more.
	most := 2 * api.MaxExpr
	wantQuery(t, at+strings.Repeat("(", most)+"a.x"+strings.Repeat(")", most), api.Query{P: a, Where: conditions("a.x")})
	wantFault(t, at+strings.Repeat("(", most+1)+"a.x"+strings.Repeat(")", most+1), len(at)+most, api.ErrLong)
}

func TestAsManyConditionsAsMayBe(t *testing.T) {
	var l []string
	for i := range api.MaxWhere {
		l = append(l, "a.x = "+strconv.Itoa(i))
	}
	wantBoth(t, "EVERY a=buy WHERE "+strings.Join(l, " AND "), api.Query{P: a, Where: conditions(l...)})
	l = append(l, "a.x")
	wantFault(t, "EVERY a=buy WHERE "+strings.Join(l, " AND "), 0, api.ErrLong)
}

// TestReadButRefused: texts that are read to their end, but whose query can't be.
func TestReadButRefused(t *testing.T) {
	for _, s := range []string{
		// A NOT where none may stand.
		"NOT a=buy",
		"(NOT a=buy)",
		"NOT b=sell -> a=buy",
		"(NOT b=sell) -> a=buy",
		"(NOT b=sell -> a=buy)",
		"NOT b=sell OR a=buy",
		"a=buy OR NOT b=sell",
		"a=buy OR (NOT b=sell)",
		"a=buy OR NOT b=sell OR c=buy",
		"NOT b=sell AND a=buy",
		"a=buy AND NOT b=sell",
		"a=buy AND (NOT b=sell)",
		"a=buy AND NOT b=sell AND c=buy",
		"a=buy -> NOT b=sell OR c=buy",
		"a=buy -> NOT b=sell AND c=buy -> d=tick",
		"a=buy -> NOT b=sell -> NOT c=buy",
		"a=buy -> NOT b=sell -> (NOT c=buy) -> d=tick",
		"a=buy -> NOT b=sell -> (NOT c=buy -> d=tick)",
		"(a=buy -> NOT b=sell) OR c=buy",
		"(a=buy -> NOT b=sell) AND c=buy",
		"a=buy -> (b=sell -> NOT c=buy) OR d=tick",
		// A Var twice.
		"a=buy -> a=buy",
		"a=buy AND a=buy",
		"a=buy AND a=sell",
		"a=buy OR a=sell",
		"a=buy -> b=sell OR a=buy",
		"a=buy -> NOT a=buy",
		"[2] a=buy -> a=buy",
		"(a=buy) -> (a=buy)",
	} {
		wantFault(t, "EVERY "+s, 0, api.ErrForm)
		wantFault(t, "EVERY "+s+" WHERE a.x = 1 WITHIN 5", 0, api.ErrForm)
	}
	// Too long, and not well made beside: query.Check is asked ahead of pat.Made.
	wantFault(t, "EVERY a=buy -> a=buy WHERE NOT "+sum(99), 0, api.ErrLong)
	wantFault(t, "EVERY NOT a=buy WHERE NOT "+sum(99), 0, api.ErrLong)
	wantFault(t, "EVERY "+wide(api.MaxNodes, " -> ")+" -> v0=buy", 0, api.ErrLong)
	// What can't go on comes ahead of that.
	wantStuck(t, "EVERY NOT a=buy ^)")
	wantStuck(t, "EVERY a=buy -> a=buy WITHIN ^0")
	wantStuck(t, "EVERY a=buy AND a=buy ^MODE NEAR")
	wantStuck(t, "EVERY "+wide(api.MaxNodes, " OR ")+" ^+")
}

// wide is the text of n atoms in a row.
func wide(n int, between string) string {
	l := make([]string, n)
	for i := range l {
		l[i] = "v" + strconv.Itoa(i) + "=buy"
	}
	return strings.Join(l, between)
}

func atoms(n int) []api.Pat {
	var l []api.Pat
	for i := range n {
		l = append(l, atom("v"+strconv.Itoa(i), "buy"))
	}
	return l
}

// tall is a pattern that is n deep: kinds one behind the other, in turn, the innermost an atom.
func tall(n int, kinds ...int) api.Pat {
	p := atom("v"+strconv.Itoa(n), "buy")
	if n == 1 {
		return p
	}
	next := append(slices.Clone(kinds[1:]), kinds[0])
	return api.Pat{K: kinds[0], L: []api.Pat{p, tall(n-1, next...)}}
}

func TestAsManyNodesAsMayBe(t *testing.T) {
	n := api.MaxNodes - 1
	for between, k := range map[string]int{" -> ": api.PSeq, " OR ": api.POr, " AND ": api.PAnd} {
		wantBoth(t, "EVERY "+wide(n, between), of(api.Pat{K: k, L: atoms(n)}))
		wantFault(t, "EVERY "+wide(n+1, between), 0, api.ErrLong)
		wantFault(t, "EVERY "+wide(600, between), 0, api.ErrLong)
		// Parts of the own kind are no nodes of their own.
		wantQuery(t, "EVERY ("+wide(n-1, between)+")"+between+"(w=buy)", of(api.Pat{K: k, L: append(atoms(n-1), atom("w", "buy"))}))
	}
	// One node more by another sign in it.
	wantFault(t, "EVERY "+strings.Replace(wide(n, " -> "), " -> ", " OR ", 1), 0, api.ErrLong)
	wantFault(t, "EVERY "+strings.Replace(wide(n, " OR "), " OR ", " AND ", 1), 0, api.ErrLong)
	wantFault(t, "EVERY "+strings.Replace(wide(n, " AND "), " AND ", " -> ", 1), 0, api.ErrLong)
}

func TestAsDeepAsMayBe(t *testing.T) {
	for _, kinds := range [][]int{
		{api.PSeq, api.POr}, {api.POr, api.PSeq}, {api.PSeq, api.PAnd}, {api.PAnd, api.PSeq}, {api.POr, api.PAnd}, {api.PAnd, api.POr},
		{api.PSeq, api.POr, api.PAnd}, {api.PAnd, api.POr, api.PSeq}, {api.POr, api.PSeq, api.PAnd},
	} {
		for n := 1; n <= api.MaxDeep; n++ {
			wantBoth(t, "EVERY "+written(tall(n, kinds...)), of(tall(n, kinds...)))
		}
		wantFault(t, "EVERY "+written(tall(api.MaxDeep+1, kinds...)), 0, api.ErrLong)
		wantFault(t, "EVERY "+written(tall(20, kinds...)), 0, api.ErrLong)
	}
}

func enclosed(s string, n int) string { return strings.Repeat("(", n) + s + strings.Repeat(")", n) }

func TestAsManyOpenAsMayBe(t *testing.T) {
	for s, p := range map[string]api.Pat{
		"a=buy":               a,
		"[2] a=buy":           many("a", "buy", 2, 2),
		"a=buy OR b=sell":     or(a, b),
		"a=buy -> NOT b=sell": seq(a, not("b", "sell")),
	} {
		for n := range api.MaxNodes + 1 {
			wantQuery(t, "EVERY "+enclosed(s, n), of(p))
		}
		first := len("EVERY ") + api.MaxNodes
		for _, n := range []int{1, 2, 3, 100, 1000} {
			s := "EVERY " + enclosed(s, api.MaxNodes+n)
			wantFault(t, s, first, api.ErrLong)
			// What comes behind it is not looked at; what stands ahead of it is.
			wantFault(t, s[:first+1], first, api.ErrLong)
			wantFault(t, s[:first+1]+" WITHIN +", first, api.ErrLong)
			wantFault(t, s[:first], first, api.ErrForm)
			wantFault(t, s[:first]+",", first, api.ErrForm)
			wantFault(t, s[:first]+"NOT (", first+len("NOT "), api.ErrForm)
			wantFault(t, s[:first]+"[2] (", first+len("[2] "), api.ErrForm)
			wantFault(t, "EVERY ) "+s, len("EVERY "), api.ErrForm)
		}
	}
	// With parts ahead of each (.
	for _, between := range []string{" -> ", " OR ", " AND "} {
		s := "EVERY "
		for i := range api.MaxNodes {
			s += "v" + strconv.Itoa(i) + "=buy" + between + "("
		}
		wantFault(t, s+"a=buy"+strings.Repeat(")", api.MaxNodes), 0, api.ErrLong)
		wantFault(t, s+" \n(a=buy"+strings.Repeat(")", api.MaxNodes+1), len(s)+2, api.ErrLong)
		wantFault(t, s+"a=buy"+between+"(", len(s+"a=buy"+between), api.ErrLong)
	}
}

// TestClosedAgain: only those that are open at once are counted.
func TestClosedAgain(t *testing.T) {
	var l []string
	for range 3 * api.MaxNodes {
		l = append(l, "(a=buy)")
	}
	wantFault(t, "EVERY "+strings.Join(l, " OR "), 0, api.ErrLong)
	wantQuery(t, "EVERY "+strings.Join(l[:api.MaxNodes-1], " OR "), of(or(slices.Repeat([]api.Pat{a}, api.MaxNodes-1)...)))
	wantQuery(t, "EVERY "+enclosed("a=buy", 64)+" -> "+enclosed("b=sell", 64)+" -> NOT c=buy", of(seq(a, b, not("c", "buy"))))
	wantQuery(t, "EVERY "+enclosed("a=buy", 64)+" AND "+enclosed("b=sell", 64)+" AND "+enclosed(enclosed("c=buy", 1)+" AND d=tick", 63), of(and(a, b, c, d)))
	s := "EVERY (" + enclosed("a=buy", 63) + " OR "
	wantFault(t, s+enclosed("b=sell", 64)+")", len(s)+63, api.ErrLong)
	// Those of conditions are none of the pattern's.
	s = "EVERY " + enclosed("a=buy", 64)
	wantQuery(t, s+" WHERE "+enclosed("a.x", 100), api.Query{P: a, Where: conditions("a.x")})
}

// grammar is the chapter's, by what may stand for each of its words; the empty row is nothing.
func grammar() map[string][]string {
	return map[string][]string{
		"query":   {"EVERY pattern where within END"},
		"pattern": {"ors seqs"},
		"seqs":    {"-> ors seqs", ""},
		"ors":     {"ands more"},
		"more":    {"OR ands more", ""},
		"ands":    {"last others"},
		"others":  {"AND last others", ""},
		"last":    {"NOT typed", "[ MANY ] typed", "typed", "( pattern )"},
		"typed":   {"NAME = NAME"},
		"where":   {"WHERE CONDITION", ""},
		"within":  {"WITHIN TIME", ""},
	}
}

// stands tells whether a token is what a word of the grammar that stands for no others asks.
func stands(t api.Token, s string) bool {
	n, err := strconv.ParseInt(t.S, 10, 64)
	number := t.K == api.TInt && err == nil
	switch s {
	case "END":
		return t.K == api.TEnd
	case "NAME":
		return t.K == api.TName
	case "MANY":
		return number && n >= 2 && n <= api.MaxMany
	case "TIME":
		return number && n >= 1 && n <= api.MaxWithin
	}
	return (t.K == api.TWord || t.K == api.TSign) && t.S == s
}

// begins tells whether a row of the grammar may begin with a token.
func begins(g map[string][]string, t api.Token, s string) bool {
	first, _, _ := strings.Cut(s, " ")
	if l, ok := g[first]; ok {
		return slices.ContainsFunc(l, func(s string) bool { return begins(g, t, s) })
	}
	return stands(t, first)
}

// walk goes through tokens with a row of what must come, and answers the place and the error of what can't.
func walk(s string, l []api.Token) (int, api.Errno) {
	g := grammar()
	row := []string{"query"}
	open := 0
	for len(row) > 0 {
		t, x := l[0], row[0]
		row = row[1:]
		if x == "CONDITION" {
			r, _, _ := lex.New(s[t.At:])
			_, at, e := cond.Parse(r)
			if e != api.OK {
				return t.At + at, e
			}
			l = l[r.Mark():]
			continue
		}
		if rows, ok := g[x]; ok {
			i := slices.IndexFunc(rows, func(s string) bool { return begins(g, t, s) })
			if i < 0 && rows[len(rows)-1] != "" {
				return t.At, api.ErrForm
			}
			if i >= 0 {
				row = append(strings.Fields(rows[i]), row...)
			}
			continue
		}
		if !stands(t, x) {
			return t.At, api.ErrForm
		}
		switch x {
		case "(":
			if open++; open > api.MaxNodes {
				return t.At, api.ErrLong
			}
		case ")":
			open--
		}
		l = l[1:]
	}
	return 0, api.OK
}

// is: a text may be quoted that is just a sign or a word.
func is(t api.Token, s string) bool { return (t.K == api.TSign || t.K == api.TWord) && t.S == s }

// cutAt cuts tokens at what stands in no ( ).
func cutAt(l []api.Token, s string) [][]api.Token {
	var rows [][]api.Token
	from, deep := 0, 0
	for i, t := range l {
		switch {
		case is(t, "("):
			deep++
		case is(t, ")"):
			deep--
		case deep == 0 && is(t, s):
			rows = append(rows, l[from:i])
			from = i + 1
		}
	}
	return append(rows, l[from:])
}

// cutPattern takes tokens that walk has gone through.
func cutPattern(l []api.Token) api.Pat {
	for _, way := range []struct {
		between string
		k       int
	}{{"->", api.PSeq}, {"OR", api.POr}, {"AND", api.PAnd}} {
		rows := cutAt(l, way.between)
		if len(rows) == 1 {
			continue
		}
		p := api.Pat{K: way.k}
		for _, row := range rows {
			if x := cutPattern(row); x.K == way.k {
				p.L = append(p.L, x.L...)
			} else {
				p.L = append(p.L, x)
			}
		}
		return p
	}
	switch n := len(l); {
	case is(l[0], "("):
		return cutPattern(l[1 : n-1])
	case is(l[0], "NOT"):
		return not(l[1].S, l[3].S)
	case is(l[0], "["):
		times, _ := strconv.Atoi(l[1].S)
		return many(l[3].S, l[5].S, times, times)
	}
	return atom(l[0].S, l[2].S)
}

// modelClauses has the tokens behind each clause's word.
func modelClauses(l []api.Token) map[string][]api.Token {
	m := map[string][]api.Token{}
	word := ""
	for _, t := range l {
		if t.K == api.TWord && slices.Contains([]string{"EVERY", "WHERE", "WITHIN"}, t.S) {
			word = t.S
			continue
		}
		m[word] = append(m[word], t)
	}
	return m
}

func modelQuery(s string, l []api.Token) api.Query {
	m := modelClauses(l[:len(l)-1])
	q := of(cutPattern(m["EVERY"]))
	if w := m["WHERE"]; w != nil {
		r, _, _ := lex.New(s[w[0].At:])
		x, _, _ := cond.Parse(r)
		if q.Where = []api.Expr{x}; x.K == api.XAnd {
			q.Where = x.L
		}
	}
	if w := m["WITHIN"]; w != nil {
		q.Within, _ = strconv.ParseInt(w[0].S, 10, 64)
	}
	return q
}

// model is Parse by other means: a walk through the grammar, then cuts at signs.
func model(s string) (api.Query, int, api.Errno) {
	l, at, e := lex.All(s)
	if e != api.OK {
		return api.Query{}, at, e
	}
	if at, e := walk(s, l); e != api.OK {
		return api.Query{}, at, e
	}
	q := modelQuery(s, l)
	switch e := query.Check(q); {
	case e == api.ErrLong:
		return api.Query{}, 0, api.ErrLong
	case e != api.OK, pat.Made(q.P) != api.OK:
		return api.Query{}, 0, api.ErrForm
	}
	return q, len(s), api.OK
}

func wantAsModel(t *testing.T, s string) (int, api.Errno) {
	t.Helper()
	q, at, e := model(s)
	x, n, got := epl.Parse(s)
	if !query.Same(x, q) || n != at || got != e {
		t.Errorf("Parse(%q): %s, %d, %d; want %s, %d, %d", s, said(x), n, got, said(q), at, e)
	}
	if e == api.OK {
		wantSaidAgain(t, q)
	}
	return at, e
}

// wantSaidAgain: P20.3, of a query that was parsed.
func wantSaidAgain(t *testing.T, q api.Query) {
	t.Helper()
	s, e := epl.Print(q)
	if s != whole(q) || e != api.OK || !epl.Says(q) {
		t.Errorf("Print(%s): %q, %d; want %q, 0", said(q), s, e, whole(q))
	}
	if len(s) <= api.MaxSource {
		wantQuery(t, s, q)
	}
}

// eachRow tells all rows of up to n words behind s with which it goes on, and those that are one word longer. A # in a word is a number that no other one has.
func eachRow(s string, words []string, n int, goesOn func(string) bool) {
	if !goesOn(s) || n == 0 {
		return
	}
	for _, w := range words {
		eachRow(s+" "+strings.ReplaceAll(w, "#", strconv.Itoa(n)), words, n-1, goesOn)
	}
}

// open: a text goes on, if nothing ahead of its end was refused.
func open(t *testing.T, seen *int) func(string) bool {
	return func(s string) bool {
		*seen++
		at, e := wantAsModel(t, s)
		return e == api.OK || at == len(s) || at == 0
	}
}

func TestEachShortPattern(t *testing.T) {
	seen := 0
	eachRow("EVERY", []string{"n#", "=", "(", ")", "->", "OR", "AND", "NOT", "[", "]", "2"}, 13, open(t, &seen))
	if seen < 10000 {
		t.Errorf("only %d", seen)
	}
}

// TestEachRowOfAtoms: all rows of atoms and what stands between and around them.
func TestEachRowOfAtoms(t *testing.T) {
	seen := 0
	eachRow("EVERY", []string{"n# = t", "( n# = t", "n# = t )", "NOT n# = t", "[ 3 ] n# = t", "->", "OR", "AND", ")"}, 8, open(t, &seen))
	if seen < 10000 {
		t.Errorf("only %d", seen)
	}
}

func TestEachShortRowOfClauses(t *testing.T) {
	seen := 0
	words := []string{"WHERE", "WITHIN", "PARTITION", "MODE", "RETURN", "EVERY", "n#", "=", "(", ")", ".", ",", "->", "TRUE", "OR", "AND", "NOT", "7"}
	eachRow("EVERY a=buy", words, 7, open(t, &seen))
	if seen < 10000 {
		t.Errorf("only %d", seen)
	}
}

// TestEachOtherToken: each token of a text in place of each other one, beside it, and gone.
func TestEachOtherToken(t *testing.T) {
	text := strings.Fields("EVERY a = buy -> NOT b = sell -> ( c = buy OR [ 3 ] d = sell AND ( e = buy -> f = tick ) ) AND g = tick WHERE a.x < 1 AND ( b.x OR TRUE ) WITHIN 5")
	words := append(slices.Clone(text), "0", "1001", "2000000000000", "-", "!", "|", "'p'", ".", ",", "{", "MODE", "PATTERN", "SEQ", "X")
	for i := range text {
		wantAsModel(t, strings.Join(text[:i], " "))
		wantAsModel(t, strings.Join(slices.Delete(slices.Clone(text), i, i+1), " "))
		for _, w := range words {
			l := slices.Clone(text)
			l[i] = w
			wantAsModel(t, strings.Join(l, " "))
			wantAsModel(t, strings.Join(slices.Insert(slices.Clone(text), i, w), " "))
		}
	}
}

// looser has, of each kind, those that must stand in ( ) as its parts.
func looser(k, part int) bool {
	switch k {
	case api.POr:
		return part == api.PSeq
	case api.PAnd:
		return part == api.PSeq || part == api.POr
	}
	return false
}

// written is the text of a pattern, as P20.2 has it.
func written(p api.Pat) string {
	var l []string
	for _, x := range p.L {
		s := written(x)
		if looser(p.K, x.K) {
			s = "(" + s + ")"
		}
		l = append(l, s)
	}
	switch p.K {
	case api.PSeq:
		return strings.Join(l, " -> ")
	case api.POr:
		return strings.Join(l, " OR ")
	case api.PAnd:
		return strings.Join(l, " AND ")
	case api.PNot:
		return fmt.Sprintf("NOT %s=%s", p.Var, p.Type)
	case api.PMany:
		return fmt.Sprintf("[%d] %s=%s", p.Lo, p.Var, p.Type)
	}
	return fmt.Sprintf("%s=%s", p.Var, p.Type)
}

// whole is the text of a query, as P20.2 has it.
func whole(q api.Query) string {
	s := "EVERY " + written(q.P)
	if len(q.Where) > 0 {
		row, _ := cond.Row(q.Where)
		s += " WHERE " + row
	}
	if q.Within > 0 {
		s += fmt.Sprintf(" WITHIN %d", q.Within)
	}
	return s
}

func pick[T any](by *rand.Rand, l []T) T { return l[by.Intn(len(l))] }

// grown is a pattern of about n nodes that is well made, but for its depth and size, as names has no Var twice; how many there are of a PMany is told by times.
func grown(by *rand.Rand, n, but int, names *int, times func() (int, int)) api.Pat {
	*names++
	t, v := pick(by, []string{"buy", "sell", "t_1"}), "v"+strconv.Itoa(*names)
	if n < 3 {
		if by.Intn(3) > 0 {
			return atom(v, t)
		}
		lo, hi := times()
		return many(v, t, lo, hi)
	}
	p := api.Pat{K: but}
	for p.K == but {
		p.K = pick(by, []int{api.PSeq, api.PAnd, api.POr})
	}
	parts := 2 + by.Intn(min(n-2, 4))
	for i := range parts {
		p.L = append(p.L, grown(by, (n-1)/parts, p.K, names, times))
		if p.K == api.PSeq && by.Intn(3) == 0 && i < parts-1 {
			*names++
			p.L = append(p.L, not("n"+strconv.Itoa(*names), "sell"))
		}
	}
	return p
}

// someQuery is one that is said, but for its depth and size.
func someQuery(by *rand.Rand) api.Query {
	return someQueryOf(by, func() (int, int) {
		n := 2 + by.Intn(3)*by.Intn(api.MaxMany/2-1)
		return n, n
	})
}

// someQueryOf has conditions of texts here.
func someQueryOf(by *rand.Rand, times func() (int, int)) api.Query {
	names := 0
	q := of(grown(by, 1+by.Intn(40), 0, &names, times))
	if q.P.K == api.PSeq && by.Intn(3) == 0 {
		q.P.L = append(q.P.L, not("tail", "t_1"))
	}
	for range by.Intn(4) {
		q.Where = append(q.Where, condition(pick(by, []string{"v1.x = 1", "v1.x = 1 OR NOT v2.x < 3", "NOT (v1.x AND v2.x)", "-v1.x + 3 * 2 > -5", "v1.k = 'o\\'p'", "TRUE", "NULL = v1.x OR FALSE"})))
	}
	q.Within = pick(by, []int64{0, 1, 10, 77777, api.MaxWithin})
	return q
}

func TestPrintAtRandom(t *testing.T) {
	by := rand.New(rand.NewSource(2001))
	for range 5000 {
		q := someQuery(by)
		if query.Check(q) != api.OK || pat.Made(q.P) != api.OK {
			if pat.Deep(q.P) <= api.MaxDeep && pat.Size(q.P) <= api.MaxNodes {
				t.Fatalf("not right: %s", said(q))
			}
			continue
		}
		was := copied(q)
		wantBoth(t, whole(q), q)
		if !query.Same(q, was) {
			t.Errorf("Print has changed %s", said(was))
		}
	}
}

// TestParseAtRandom: texts that are nearly right.
func TestParseAtRandom(t *testing.T) {
	by := rand.New(rand.NewSource(2002))
	others := []string{"(", ")", ",", "|", "!", "->", "=", "[", "]", ".", "n", "2", "1", "0", "OR", "AND", "NOT", "WHERE", "WITHIN", "EVERY", "-", ">", "'x'"}
	for range 20000 {
		l := tokens(whole(someQuery(by)))
		for range by.Intn(3) {
			i := by.Intn(len(l))
			switch by.Intn(4) {
			case 0:
				l = slices.Delete(l, i, min(i+1, len(l)-1))
			case 1:
				l = slices.Insert(l, i, pick(by, others))
			case 2:
				l[i] = pick(by, others)
			default:
				j := by.Intn(len(l))
				l[i], l[j] = l[j], l[i]
			}
		}
		wantAsModel(t, blanked(by, l))
	}
}

// tokens are those of a text, as they stand in it.
func tokens(s string) []string {
	l, _, _ := lex.All(s)
	var words []string
	for i, x := range l[:len(l)-1] {
		words = append(words, strings.TrimRight(s[x.At:l[i+1].At], " \t\n"))
	}
	return words
}

// blanked sets tokens behind each other, with blanks where there must be, and where there may.
func blanked(by *rand.Rand, l []string) string {
	var b strings.Builder
	for i, s := range l {
		if i > 0 && (needsBlank(l[i-1], s) || by.Intn(3) == 0) {
			b.WriteString(pick(by, []string{" ", "  ", "\n", "\t", " \n "}))
		}
		b.WriteString(s)
	}
	return b.String() + pick(by, []string{"", " ", "\n"})
}

// needsBlank: would the two be read as others, if nothing stood between?
func needsBlank(a, b string) bool {
	l, _, e := lex.All(a + b)
	return e != api.OK || len(l) != 3 || l[1].At != len(a)
}

// loose is a text of p with needless ( ), and parts in others of their kind.
func loose(by *rand.Rand, p api.Pat) string {
	s := written(p)
	if len(p.L) > 0 {
		s = looseParts(by, p.K, p.L)
	}
	for by.Intn(4) == 0 {
		s = "(" + s + ")"
	}
	return s
}

// looseParts has some parts that stand beside each other in another one of their kind.
func looseParts(by *rand.Rand, k int, parts []api.Pat) string {
	var l []string
	for i := 0; i < len(parts); {
		n := 1 + by.Intn(len(parts)-i)
		if n == len(parts) || by.Intn(2) == 0 {
			s := loose(by, parts[i])
			if looser(k, parts[i].K) {
				s = "(" + s + ")"
			}
			l = append(l, s)
			i++
			continue
		}
		l = append(l, "("+looseParts(by, k, parts[i:i+n])+")")
		i += n
	}
	return strings.Join(l, map[int]string{api.PSeq: " -> ", api.POr: " OR ", api.PAnd: " AND "}[k])
}

func TestPrintOfParsed(t *testing.T) {
	by := rand.New(rand.NewSource(2003))
	seen := 0
	for range 5000 {
		q := someQuery(by)
		if query.Check(q) != api.OK {
			continue
		}
		rest := strings.TrimPrefix(whole(q), "EVERY "+written(q.P))
		s := blanked(by, tokens("EVERY "+loose(by, q.P)+rest))
		if len(s) > api.MaxSource {
			continue
		}
		seen++
		wantQuery(t, s, q)
		wantSaidAgain(t, q)
	}
	if seen < 4000 {
		t.Errorf("only %d", seen)
	}
}

// kinds has one pattern of each kind, with Vars that begin with v.
func kinds(v string) []api.Pat {
	return []api.Pat{
		atom(v, "buy"),
		many(v, "buy", 2, 2),
		many(v, "buy", 1, 0),
		many(v, "buy", 2, 5),
		seq(atom(v+"_a", "buy"), atom(v+"_b", "sell")),
		and(atom(v+"_a", "buy"), atom(v+"_b", "sell")),
		or(atom(v+"_a", "buy"), atom(v+"_b", "sell")),
		not(v, "buy"),
	}
}

// TestEachKindWithinEach: what comes of it is what query.Check and pat.Made tell, then ErrSay, if it is not said, then its text.
func TestEachKindWithinEach(t *testing.T) {
	seen := map[api.Errno]int{}
	for _, k := range []int{api.PSeq, api.PAnd, api.POr} {
		for _, x := range kinds("v") {
			for _, y := range kinds("w") {
				p := api.Pat{K: k, L: []api.Pat{x, y}}
				for _, p := range []api.Pat{p, seq(a, p, c), or(a, p), and(p, a), seq(a, or(p, c)), and(a, or(c, p)), or(and(p, a), seq(c, p))} {
					seen[wantAsNamed(t, of(p))]++
				}
			}
		}
	}
	for _, x := range kinds("v") {
		seen[wantAsNamed(t, of(x))]++
	}
	for _, e := range []api.Errno{api.OK, api.ErrArg, api.ErrForm, api.ErrSay} {
		if seen[e] < 10 {
			t.Errorf("only %d with %d", seen[e], e)
		}
	}
}

// unsaid asks one node after the other.
func unsaid(q api.Query) bool {
	row := []api.Pat{q.P}
	for len(row) > 0 {
		p := row[0]
		if p.K == api.PMany && p.Lo != p.Hi {
			return true
		}
		row = append(slices.Clone(p.L), row[1:]...)
	}
	return q.Key != "" || len(q.Items) > 0 || q.Mode != api.MAny
}

// wantAsNamed asks for the error that P20.2 names first, or the text.
func wantAsNamed(t *testing.T, q api.Query) api.Errno {
	t.Helper()
	e := query.Check(q)
	if e == api.OK {
		e = pat.Made(q.P)
	}
	if e == api.OK && unsaid(q) {
		e = api.ErrSay
	}
	if e == api.OK {
		wantBoth(t, whole(q), q)
	} else {
		wantUnprinted(t, said(q), q, e)
	}
	return e
}

// TestNamedAtRandom: queries that are said, and those that are not, for each reason.
func TestNamedAtRandom(t *testing.T) {
	by := rand.New(rand.NewSource(2004))
	seen := map[api.Errno]int{}
	for range 5000 {
		q := someQueryOf(by, func() (int, int) {
			lo := 2 + by.Intn(3)
			return lo, pick(by, []int{lo, lo, lo, lo, lo, lo, lo, lo + 1, 0})
		})
		q.Key = pick(by, []string{"", "", "", "k"})
		q.Mode = pick(by, []int{api.MAny, api.MAny, api.MAny, api.MNear, api.MStrict, 3})
		if by.Intn(4) == 0 {
			q.Items = []api.Item{item("n", api.ICount, "v1", "")}
		}
		if by.Intn(4) == 0 && len(q.P.L) > 0 {
			q.P.L[by.Intn(len(q.P.L))] = pick(by, []api.Pat{not("v1", "buy"), atom("v2", "buy"), atom("z", "buy"), {}})
		}
		seen[wantAsNamed(t, q)]++
	}
	for _, e := range []api.Errno{api.OK, api.ErrArg, api.ErrForm, api.ErrSay} {
		if seen[e] < 100 {
			t.Errorf("only %d with %d", seen[e], e)
		}
	}
}

// TestHowMany: a PMany is said just if it is told how many.
func TestHowMany(t *testing.T) {
	for _, w := range []struct{ lo, hi int }{{1, 0}, {2, 0}, {api.MaxMany, 0}, {1, 2}, {2, 3}, {2, api.MaxMany}, {1, api.MaxMany}, {api.MaxMany - 1, api.MaxMany}} {
		x := many("m", "buy", w.lo, w.hi)
		for what, p := range map[string]api.Pat{
			"at the top":   x,
			"first":        seq(x, a, b),
			"last":         seq(a, b, x),
			"in an or":     or(a, x),
			"in an and":    and(x, b),
			"deep inside":  or(a, seq(b, and(c, or(d, seq(x, atom("e", "buy")))))),
			"ahead of not": seq(a, x, not("b", "sell")),
			"behind a not": seq(a, not("b", "sell"), x),
			"beside 2":     and(many("n", "buy", 2, 2), x),
		} {
			wantUnprinted(t, fmt.Sprintf("%d to %d %s", w.lo, w.hi, what), of(p), api.ErrSay)
			q := full
			q.P = p
			wantUnprinted(t, fmt.Sprintf("%d to %d %s with clauses", w.lo, w.hi, what), q, api.ErrSay)
		}
	}
	for _, n := range []int{2, 3, api.MaxMany - 1, api.MaxMany} {
		wantBoth(t, fmt.Sprintf("EVERY [%d] a=buy", n), of(many("a", "buy", n, n)))
		wantBoth(t, fmt.Sprintf("EVERY a=buy OR (b=sell -> c=buy AND [%d] d=tick)", n), of(or(a, seq(b, and(c, many("d", "tick", n, n))))))
	}
}

// TestUnsaid: a Key, Items, a Mode, each alone, and together.
func TestUnsaid(t *testing.T) {
	count := []api.Item{item("n", api.ICount, "a", "")}
	for what, q := range map[string]api.Query{
		"a Key":                  {P: a, Key: "k"},
		"an item":                {P: a, Items: count},
		"items":                  {P: a, Items: append(slices.Clone(count), item("m", api.ISum, "a", "x"))},
		"a Mode near":            {P: a, Mode: api.MNear},
		"a Mode strict":          {P: a, Mode: api.MStrict},
		"a Key and clauses":      {P: seq(a, b), Key: "k", Where: full.Where, Within: 5},
		"an item and clauses":    {P: or(a, b), Items: count, Where: full.Where, Within: 5},
		"a Mode and clauses":     {P: and(a, b), Mode: api.MNear, Where: full.Where, Within: 5},
		"a Key, items, a Mode":   {P: a, Key: "k", Items: count, Mode: api.MStrict},
		"all, and any number":    {P: many("a", "buy", 1, 0), Key: "k", Items: count, Mode: api.MStrict},
		"a Key and just so many": {P: many("a", "buy", 2, 2), Key: "k"},
	} {
		wantUnprinted(t, what, q, api.ErrSay)
	}
	wantBoth(t, "EVERY a=buy", api.Query{P: a, Mode: api.MAny})
}

// TestPrintRefuses: the error that is named first.
func TestPrintRefuses(t *testing.T) {
	twice, any := seq(a, a), many("m", "buy", 1, 0)
	long := conditions("NOT " + sum(99))
	for _, w := range []struct {
		what string
		q    api.Query
		e    api.Errno
	}{
		{"the zero query", api.Query{}, api.ErrArg},
		{"a kind that is none", of(api.Pat{K: 7, Type: "buy", Var: "a"}), api.ErrArg},
		{"a kind below 0", of(api.Pat{K: -1, Type: "buy", Var: "a"}), api.ErrArg},
		{"the least kind", of(api.Pat{K: math.MinInt}), api.ErrArg},
		{"the greatest kind", of(api.Pat{K: math.MaxInt, L: []api.Pat{a, b}}), api.ErrArg},
		{"a kind that is none inside", of(seq(a, b, api.Pat{})), api.ErrArg},
		{"a part too few", of(seq(a)), api.ErrArg},
		{"no parts", of(or()), api.ErrArg},
		{"empty parts", of(api.Pat{K: api.PAnd, L: []api.Pat{}}), api.ErrArg},
		{"a seq in a seq", of(seq(a, seq(b, c))), api.ErrArg},
		{"an or in an or", of(or(or(a, b), c)), api.ErrArg},
		{"an and in an and", of(and(and(a, b), c)), api.ErrArg},
		{"a Type that is no name", of(atom("a", "BUY")), api.ErrArg},
		{"a Var that is no name", of(atom("", "buy")), api.ErrArg},
		{"a Lo that can't be", of(many("a", "buy", 0, 0)), api.ErrArg},
		{"a Lo and Hi too great", of(many("a", "buy", api.MaxMany+1, api.MaxMany+1)), api.ErrArg},
		{"a Hi too great", of(many("a", "buy", 1, api.MaxMany+1)), api.ErrArg},
		{"the greatest Lo and Hi", of(many("a", "buy", math.MaxInt, math.MaxInt)), api.ErrArg},
		{"the least Lo and Hi", of(many("a", "buy", math.MinInt, math.MinInt)), api.ErrArg},
		{"one to one", of(many("a", "buy", 1, 1)), api.ErrArg},
		{"a Hi below its Lo", of(many("a", "buy", 3, 2)), api.ErrArg},
		{"a Lo of an atom", of(api.Pat{K: api.PAtom, Type: "buy", Var: "a", Lo: 1}), api.ErrArg},
		{"a Lo and Hi of an atom", of(api.Pat{K: api.PAtom, Type: "buy", Var: "a", Lo: 2, Hi: 2}), api.ErrArg},
		{"parts of an atom", of(api.Pat{K: api.PAtom, Type: "buy", Var: "a", L: []api.Pat{b}}), api.ErrArg},
		{"a Var of a seq", of(api.Pat{K: api.PSeq, Var: "s", L: []api.Pat{a, b}}), api.ErrArg},
		{"a Mode below 0", api.Query{P: a, Mode: -1}, api.ErrArg},
		{"a Mode that is none", api.Query{P: a, Mode: api.MStrict + 1}, api.ErrArg},
		{"the greatest Mode", api.Query{P: a, Mode: math.MaxInt}, api.ErrArg},
		{"a Within below 0", api.Query{P: a, Within: -1}, api.ErrArg},
		{"a Within too great", api.Query{P: a, Within: api.MaxWithin + 1}, api.ErrArg},
		{"the least Within", api.Query{P: a, Within: math.MinInt64}, api.ErrArg},
		{"the greatest Within", api.Query{P: a, Within: math.MaxInt64}, api.ErrArg},
		{"a Key that is no name", api.Query{P: a, Key: "K"}, api.ErrArg},
		{"an item of no kind", api.Query{P: a, Items: []api.Item{item("n", 0, "a", "x")}}, api.ErrArg},
		{"an item of a kind that is none", api.Query{P: a, Items: []api.Item{item("n", 5, "a", "x")}}, api.ErrArg},
		{"an item of a kind below 0", api.Query{P: a, Items: []api.Item{item("n", math.MinInt, "a", "x")}}, api.ErrArg},
		{"an item without a Name", api.Query{P: a, Items: []api.Item{item("", api.ICount, "a", "")}}, api.ErrArg},
		{"a count of a Field", api.Query{P: a, Items: []api.Item{item("n", api.ICount, "a", "x")}}, api.ErrArg},
		{"two items of one Name", api.Query{P: a, Items: []api.Item{item("n", api.ICount, "a", ""), item("n", api.ISum, "a", "x")}}, api.ErrArg},
		{"a condition that can't be", api.Query{P: a, Where: []api.Expr{{}}}, api.ErrArg},
		{"a condition that is an XAnd", api.Query{P: a, Where: conditions("a.x AND b.x")}, api.ErrArg},
		{"too many conditions", api.Query{P: a, Where: make([]api.Expr, api.MaxWhere+1)}, api.ErrLong},
		{"too many items", api.Query{P: a, Items: make([]api.Item, api.MaxItems+1)}, api.ErrLong},
		{"too long conditions", api.Query{P: a, Where: long}, api.ErrLong},
		{"too many nodes", of(seq(make([]api.Pat, api.MaxNodes)...)), api.ErrLong},
		{"a pattern too deep", of(tall(api.MaxDeep+1, api.PSeq, api.PAnd)), api.ErrLong},
		{"a pattern far too deep", of(tall(50000, api.PSeq, api.POr)), api.ErrLong},
		{"a Var twice", of(twice), api.ErrForm},
		{"a not alone", of(not("a", "buy")), api.ErrForm},
		{"a not first", of(seq(not("a", "buy"), b)), api.ErrForm},
		{"a not in an or", of(or(not("a", "buy"), b)), api.ErrForm},
		{"a not in an and", of(and(not("a", "buy"), b)), api.ErrForm},
		{"a not behind another one", of(seq(a, not("b", "sell"), not("c", "buy"))), api.ErrForm},
		{"a not at the end of a part", of(or(seq(a, not("b", "sell")), c)), api.ErrForm},
		{"any number", of(any), api.ErrSay},
		// Several at once.
		{"a Var twice, and a Mode that is none", api.Query{P: twice, Mode: 3}, api.ErrArg},
		{"any number, and a Mode that is none", api.Query{P: any, Mode: 3}, api.ErrArg},
		{"any number, and too long conditions", api.Query{P: any, Where: long}, api.ErrLong},
		{"any number, and a Var twice", of(seq(any, a, a)), api.ErrForm},
		{"any number of one Var twice", of(and(any, any)), api.ErrForm},
		{"a Key, and a Var twice", api.Query{P: twice, Key: "k"}, api.ErrForm},
		{"a Mode, and a not alone", api.Query{P: not("a", "buy"), Mode: api.MNear}, api.ErrForm},
		{"an item, and a Var twice", api.Query{P: twice, Items: []api.Item{item("n", api.ICount, "a", "")}}, api.ErrForm},
		{"a Key, and a Within that can't be", api.Query{P: a, Key: "k", Within: -1}, api.ErrArg},
		{"a Mode, and too many conditions", api.Query{P: a, Mode: api.MNear, Where: make([]api.Expr, api.MaxWhere+1)}, api.ErrLong},
		{"a Var twice, and too many items", api.Query{P: twice, Items: make([]api.Item, api.MaxItems+1)}, api.ErrLong},
		{"a kind that is none, and too many items", api.Query{Items: make([]api.Item, api.MaxItems+1)}, api.ErrArg},
	} {
		wantUnprinted(t, w.what, w.q, w.e)
		if got := wantAsNamed(t, w.q); got != w.e {
			t.Errorf("%s: %d by query and pat; want %d", w.what, got, w.e)
		}
	}
}

// TestNilAndEmpty: lists that are nil or empty are the same.
func TestNilAndEmpty(t *testing.T) {
	empty := api.Query{P: api.Pat{K: api.PAtom, Type: "buy", Var: "a", L: []api.Pat{}}, Where: []api.Expr{}, Items: []api.Item{}}
	wantBoth(t, "EVERY a=buy", empty)
	wantBoth(t, "EVERY a=buy", of(a))
}

// TestOtherNames: names that the pattern has not are said all the same, and so is a NOT at the end without WITHIN.
func TestOtherNames(t *testing.T) {
	wantBoth(t, "EVERY a=buy WHERE z.x = 1", api.Query{P: a, Where: conditions("z.x = 1")})
	wantBoth(t, "EVERY a=a", of(atom("a", "a")))
	wantBoth(t, "EVERY a=buy -> NOT b=sell WITHIN 1", api.Query{P: seq(a, not("b", "sell")), Within: 1})
	wantBoth(t, "EVERY a=buy -> NOT b=sell", of(seq(a, not("b", "sell"))))
}

// TestLongerThanASource: Print knows no bound, but a text of more than MaxSource bytes is none that is read.
func TestLongerThanASource(t *testing.T) {
	long := "a.x = '" + strings.Repeat(`\x00`, api.MaxText) + "'"
	q := api.Query{P: a, Where: conditions(slices.Repeat([]string{long}, api.MaxWhere)...)}
	s, e := epl.Print(q)
	if s != whole(q) || e != api.OK || len(s) <= api.MaxSource {
		t.Errorf("Print: %d bytes, %d", len(s), e)
	}
	wantFault(t, s, 0, api.ErrLong)
}

// exprLists and patLists are all lists of an answer.
func exprLists(x *api.Expr) []*[]api.Expr {
	l := []*[]api.Expr{&x.L}
	for i := range x.L {
		l = append(l, exprLists(&x.L[i])...)
	}
	return l
}

func patLists(p *api.Pat) []*[]api.Pat {
	l := []*[]api.Pat{&p.L}
	for i := range p.L {
		l = append(l, patLists(&p.L[i])...)
	}
	return l
}

// TestListsAreApart: what is set into a list of an answer, or behind it, is seen in no other list, nor in a later answer.
func TestListsAreApart(t *testing.T) {
	s := "EVERY (a=buy OR b=sell -> (c=buy OR d=tick) OR e=buy) -> (f=buy -> g=sell) OR ((h=buy -> NOT i=sell -> j=buy)) -> (k=buy AND (l=buy AND m=sell)) AND [2] n=buy WHERE (a.x = 1 AND b.x + 1 = 2) AND NOT a.x = 3 AND (a.x OR (b.x OR a.y)) WITHIN 9"
	want, _, e := epl.Parse(s)
	if e != api.OK {
		t.Fatal(e)
	}
	want = copied(want)
	for i := range patLists(&want.P) {
		q, _, _ := epl.Parse(s)
		l := *patLists(&q.P)[i]
		_ = append(l, atom("z", "z"), atom("z", "z"), atom("z", "z"))
		if !query.Same(q, want) {
			t.Errorf("behind list %d of the pattern is another one", i)
		}
		clear(l)
		wantQuery(t, s, want)
	}
	for i := range exprLists(&api.Expr{L: want.Where}) {
		q, _, _ := epl.Parse(s)
		l := *exprLists(&api.Expr{L: q.Where})[i]
		_ = append(l, api.Expr{K: 99}, api.Expr{K: 99}, api.Expr{K: 99})
		if !query.Same(q, want) {
			t.Errorf("behind list %d of the conditions is another one", i)
		}
		clear(l)
		wantQuery(t, s, want)
	}
}

// TestListsStayAsTheyWere: neither Says nor Print changes what it is handed, also where it refuses it.
func TestListsStayAsTheyWere(t *testing.T) {
	items := []api.Item{item("n", api.ILast, "a", "x"), item("m", api.ICount, "b", "")}
	for _, p := range []api.Pat{seq(a, or(b, c), not("d", "tick")), and(a, or(b, c)), or(a, seq(b, many("c", "buy", 1, 2))), seq(a, a), seq(a, seq(b, c))} {
		for _, l := range [][]api.Item{nil, items} {
			q := copied(api.Query{P: p, Where: full.Where, Within: 5, Items: l})
			was := copied(q)
			epl.Says(q)
			epl.Print(q)
			if !query.Same(q, was) {
				t.Errorf("%s has become %s", said(was), said(q))
			}
		}
	}
	// Room behind lists stays as it was.
	room := append(make([]api.Item, 0, 8), items...)
	exprs := append(make([]api.Expr, 0, 8), full.Where...)
	pats := append(make([]api.Pat, 0, 8), a, b)
	epl.Print(api.Query{P: seq(pats...), Where: exprs})
	epl.Print(api.Query{P: seq(pats...), Where: exprs, Items: room})
	if room[:3][2] != (api.Item{}) || !expr.Same(exprs[:3][2], api.Expr{}) || !pat.Same(pats[:3][2], api.Pat{}) {
		t.Errorf("behind the lists: %v, %v, %v", room[:8], exprs[:8], pats[:8])
	}
}

func FuzzParse(f *testing.F) {
	for _, s := range []string{
		"EVERY a=buy -> NOT b=sell -> c=buy OR d=sell WHERE a.x < 3 WITHIN 10",
		"EVERY a=buy AND [3] b=sell OR (c=buy -> d=sell)",
		"EVERY (((a=buy))) WHERE TRUE AND (a.x OR NOT b.y)",
	} {
		f.Add(s)
	}
	f.Fuzz(func(t *testing.T, s string) { wantAsModel(t, s) })
}
