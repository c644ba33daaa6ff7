package sase_test

import (
	"fmt"
	"math"
	"math/rand"
	"slices"
	"strconv"
	"strings"
	"testing"

	"haruspex/api"
	"haruspex/cond"
	"haruspex/expr"
	"haruspex/lex"
	"haruspex/pat"
	"haruspex/query"
	"haruspex/sase"
)

// Patterns, by their kinds.
func atom(t, v string) api.Pat { return api.Pat{K: api.PAtom, Type: t, Var: v} }

func not(t, v string) api.Pat { return api.Pat{K: api.PNot, Type: t, Var: v} }

func many(t, v string, lo, hi int) api.Pat {
	return api.Pat{K: api.PMany, Type: t, Var: v, Lo: lo, Hi: hi}
}

func seq(l ...api.Pat) api.Pat { return api.Pat{K: api.PSeq, L: l} }

func and(l ...api.Pat) api.Pat { return api.Pat{K: api.PAnd, L: l} }

func or(l ...api.Pat) api.Pat { return api.Pat{K: api.POr, L: l} }

// The patterns that texts here speak of.
var a, b, c, d = atom("buy", "a"), atom("sell", "b"), atom("buy", "c"), atom("tick", "d")

func of(p api.Pat) api.Query { return api.Query{P: p} }

// condition reads one that a test is about, but for its own text.
func condition(s string) api.Expr {
	x, _, e := cond.Text(s)
	if e != api.OK {
		panic(s)
	}
	return x
}

func conditions(l ...string) []api.Expr {
	var x []api.Expr
	for _, s := range l {
		x = append(x, condition(s))
	}
	return x
}

func item(name string, k int, v, f string) api.Item {
	return api.Item{Name: name, K: k, Var: v, Field: f}
}

func copiedExpr(x api.Expr) api.Expr {
	x.L = slices.Clone(x.L)
	for i := range x.L {
		x.L[i] = copiedExpr(x.L[i])
	}
	return x
}

func copiedPat(p api.Pat) api.Pat {
	p.L = slices.Clone(p.L)
	for i := range p.L {
		p.L[i] = copiedPat(p.L[i])
	}
	return p
}

func copied(q api.Query) api.Query {
	q.P = copiedPat(q.P)
	q.Where = copiedExpr(api.Expr{L: q.Where}).L
	q.Items = slices.Clone(q.Items)
	return q
}

func said(x any) string { return fmt.Sprintf("%.500s", fmt.Sprint(x)) }

func zero(q api.Query) bool { return query.Same(q, api.Query{}) }

func wantQuery(t *testing.T, s string, q api.Query) {
	t.Helper()
	x, at, e := sase.Parse(s)
	if !query.Same(x, q) || at != len(s) || e != api.OK {
		t.Errorf("Parse(%q): %s, %d, %d; want %s, %d, 0", s, said(x), at, e, said(q), len(s))
	}
}

func wantFault(t *testing.T, s string, at int, e api.Errno) {
	t.Helper()
	x, n, got := sase.Parse(s)
	if !zero(x) || n != at || got != e {
		t.Errorf("Parse(%.300q): %s, %d, %d; want none, %d, %d", s, said(x), n, got, at, e)
	}
}

// marked is a text without its ^, and where that stood.
func marked(t *testing.T, s string) (string, int) {
	t.Helper()
	at := strings.Index(s, "^")
	if at < 0 {
		t.Fatalf("no place in %q", s)
	}
	return s[:at] + s[at+1:], at
}

// wantStuck takes a text with a ^ ahead of the token with which nothing can go on.
func wantStuck(t *testing.T, s string) {
	t.Helper()
	s, at := marked(t, s)
	wantFault(t, s, at, api.ErrForm)
}

func wantPrinted(t *testing.T, q api.Query, s string) {
	t.Helper()
	if got, e := sase.Print(q); got != s || e != api.OK {
		t.Errorf("Print(%s): %q, %d; want %q, 0", said(q), got, e, s)
	}
	if !sase.Says(q) {
		t.Errorf("Says(%s): false", said(q))
	}
}

// wantBoth asks for a query's text, both ways.
func wantBoth(t *testing.T, s string, q api.Query) {
	t.Helper()
	wantQuery(t, s, q)
	wantPrinted(t, q, s)
}

// wantRead asks for a text that is read as q, and written otherwise.
func wantRead(t *testing.T, s string, q api.Query, as string) {
	t.Helper()
	wantQuery(t, s, q)
	wantBoth(t, as, q)
}

func wantUnprinted(t *testing.T, what string, q api.Query, e api.Errno) {
	t.Helper()
	if s, got := sase.Print(q); s != "" || got != e {
		t.Errorf("Print of %s: %q, %d; want none, %d", what, s, got, e)
	}
	if sase.Says(q) {
		t.Errorf("Says of %s: true", what)
	}
}

func TestExamples(t *testing.T) {
	p := seq(a, not("sell", "b"), many("buy", "c", 1, 0))
	wantBoth(t, "PATTERN SEQ(buy a, !sell b, buy c+) WITHIN 10", api.Query{P: p, Within: 10})
	wantBoth(t, "PATTERN SEQ(buy a, !sell b, buy c+) WHERE a.x < c.x WITHIN 10 RETURN COUNT(c) AS n", api.Query{
		P: p, Where: conditions("a.x < c.x"), Within: 10, Items: []api.Item{item("n", api.ICount, "c", "")},
	})
}

func TestPatterns(t *testing.T) {
	for s, p := range map[string]api.Pat{
		"buy a":                                   a,
		"buy a | sell b":                          or(a, b),
		"buy a | sell b | buy c":                  or(a, b, c),
		"SEQ(buy a, sell b)":                      seq(a, b),
		"SEQ(buy a, sell b, buy c)":               seq(a, b, c),
		"SEQ(buy a | sell b, buy c)":              seq(or(a, b), c),
		"SEQ(buy a, sell b | buy c)":              seq(a, or(b, c)),
		"SEQ(buy a, sell b) | buy c":              or(seq(a, b), c),
		"buy a | SEQ(sell b, buy c)":              or(a, seq(b, c)),
		"SEQ(buy a, SEQ(sell b, buy c) | tick d)": seq(a, or(seq(b, c), d)),
		"SEQ(buy a, !sell b, buy c)":              seq(a, not("sell", "b"), c),
		"SEQ(buy a, !sell b)":                     seq(a, not("sell", "b")),
		"SEQ(buy a, !sell b, buy c, !tick d)":     seq(a, not("sell", "b"), c, not("tick", "d")),
		"SEQ(buy a | buy c, !sell b)":             seq(or(a, c), not("sell", "b")),
		"buy a | buy a":                           or(a, a),
		"buy a+":                                  many("buy", "a", 1, 0),
		"buy a{2,}":                               many("buy", "a", 2, 0),
		"buy a{1,2}":                              many("buy", "a", 1, 2),
		"buy a{2,2}":                              many("buy", "a", 2, 2),
		"buy a{1,1000}":                           many("buy", "a", 1, api.MaxMany),
		"buy a{1000,1000}":                        many("buy", "a", api.MaxMany, api.MaxMany),
		"buy a{1000,}":                            many("buy", "a", api.MaxMany, 0),
		"buy a+ | sell b{3,4}":                    or(many("buy", "a", 1, 0), many("sell", "b", 3, 4)),
		"SEQ(buy a+, !sell b, buy c{2,})":         seq(many("buy", "a", 1, 0), not("sell", "b"), many("buy", "c", 2, 0)),
	} {
		wantBoth(t, "PATTERN "+s, of(p))
	}
}

func TestPatternsWithNeedlessSigns(t *testing.T) {
	for s, as := range map[string]string{
		"(buy a)":                                     "buy a",
		"((buy a))":                                   "buy a",
		"SEQ(buy a)":                                  "buy a",
		"SEQ(SEQ(buy a))":                             "buy a",
		"(SEQ((buy a)))":                              "buy a",
		"buy a{1,}":                                   "buy a+",
		"(buy a | sell b)":                            "buy a | sell b",
		"SEQ(buy a | sell b)":                         "buy a | sell b",
		"(SEQ(buy a, sell b))":                        "SEQ(buy a, sell b)",
		"SEQ(SEQ(buy a, sell b))":                     "SEQ(buy a, sell b)",
		"SEQ(SEQ(buy a, sell b), buy c)":              "SEQ(buy a, sell b, buy c)",
		"SEQ(buy a, SEQ(sell b, buy c))":              "SEQ(buy a, sell b, buy c)",
		"SEQ(buy a, (SEQ(sell b, buy c)))":            "SEQ(buy a, sell b, buy c)",
		"SEQ(SEQ(buy a, sell b), SEQ(buy c, tick d))": "SEQ(buy a, sell b, buy c, tick d)",
		"SEQ(buy a, SEQ(sell b, SEQ(buy c, tick d)))": "SEQ(buy a, sell b, buy c, tick d)",
		"SEQ(SEQ(SEQ(buy a, sell b), buy c), tick d)": "SEQ(buy a, sell b, buy c, tick d)",
		"(buy a | sell b) | buy c":                    "buy a | sell b | buy c",
		"buy a | (sell b | buy c)":                    "buy a | sell b | buy c",
		"buy a | ((sell b) | (buy c | tick d))":       "buy a | sell b | buy c | tick d",
		"buy a | SEQ(sell b | buy c)":                 "buy a | sell b | buy c",
		"SEQ((buy a | sell b), (buy c))":              "SEQ(buy a | sell b, buy c)",
		"SEQ(buy a, SEQ(!sell b, buy c))":             "SEQ(buy a, !sell b, buy c)",
		"SEQ(SEQ(buy a, !sell b), buy c)":             "SEQ(buy a, !sell b, buy c)",
		"SEQ(buy a, SEQ(!sell b), buy c)":             "SEQ(buy a, !sell b, buy c)",
		"SEQ(buy a, (SEQ(SEQ(!sell b))))":             "SEQ(buy a, !sell b)",
		"SEQ(SEQ(buy a, !sell b))":                    "SEQ(buy a, !sell b)",
		"(SEQ(buy a, sell b)) | (buy c)":              "SEQ(buy a, sell b) | buy c",
	} {
		q, _, e := sase.Parse("PATTERN " + as)
		if e != api.OK {
			t.Errorf("Parse(%q): %d", as, e)
		}
		wantRead(t, "PATTERN "+s, q, "PATTERN "+as)
	}
}

// TestPatternsStuck: nothing goes on with the token behind the ^, in patterns.
func TestPatternsStuck(t *testing.T) {
	for _, s := range []string{
		// the end
		"^", "buy ^", "buy a | ^", "buy a | sell ^", "SEQ^", "SEQ ^", "SEQ(^", "SEQ(buy a^", "SEQ(buy a, ^", "(^", "(buy a^", "(buy a | ^", "((buy a) ^", "buy a{^", "buy a{2^", "buy a{2,^", "buy a{2,3^", "SEQ(buy a, !^", "SEQ(buy a, !sell ^", "SEQ(buy a, !sell b^",
		// what begins no pattern
		"^)", "^|", "^,", "^!sell b", "^! sell b", "^+", "^{2,3}", "^5", "^'buy' a", "^BUY a", "^WHERE a.x = 1", "^PATTERN buy a", "^<= a", "^'(' buy a)", "^'SEQ'(buy a)",
		// a Type alone
		"buy ^)", "buy ^5", "buy ^'a'", "buy ^A", "buy ^| sell b", "buy ^+", "buy ^{2,3}", "buy ^(a)", "buy ^, a", "buy ^. a", "buy ^= a", "buy ^WITHIN 5", "a^=buy",
		// behind an atom
		"buy a ^)", "buy a ^b", "buy a ^5", "buy a ^'b'", "buy a ^, sell b", "buy a ^(sell b)", "buy a ^!sell b", "buy a ^SEQ(sell b)", "buy a ^B", "buy a ^}", "buy a ^*", "buy a ^OR sell b", "buy a ^-> sell b", "buy a ^'|' sell b", "buy a^'+'",
		// between |
		"buy a | ^)", "buy a | ^| sell b", "buy a | ^!sell b", "buy a | ^5", "buy a | ^WHERE a.x = 1", "buy a | sell ^| buy c",
		// SEQ
		"SEQ ^buy a", "SEQ ^SEQ(buy a)", "SEQ ^)", "SEQ ^{buy a}", "SEQ ^[buy a]", "SEQ(^)", "SEQ(^, buy a)", "SEQ(buy a, ^)", "SEQ(buy a, ^, sell b)", "SEQ(buy a ^sell b)", "SEQ(buy a) ^)", "SEQ(buy a, sell b ^WITHIN 5", "SEQ(buy a) ^, sell b", "SEQ(buy a) ^+", "SEQ(buy a, sell b) ^{2,3}", "SEQ(buy a) ^SEQ(sell b)",
		// ( )
		"(^)", "(^!sell b)", "(buy a ^, sell b)", "(buy a^}", "(buy a) ^)", "(buy a) ^+", "(buy a) ^{2,3}", "(buy a) ^b", "(buy a ^WITHIN 5)", "(buy a) ^(sell b)", "SEQ((buy a ^, sell b))", "(buy ^(a))",
		// !
		"SEQ(buy a, !^)", "SEQ(buy a, !^(sell b))", "SEQ(buy a, !^!sell b)", "SEQ(buy a, !^SEQ(sell b))", "SEQ(buy a, !^5)", "SEQ(buy a, !sell ^)", "SEQ(buy a, !sell b^+)", "SEQ(buy a, !sell b^{2,3})", "SEQ(buy a, !sell b ^| buy c)", "SEQ(buy a, buy c | ^!sell b)", "SEQ(buy a, (^!sell b))", "buy a | ^!sell b", "SEQ(buy a, ^'!' sell b)",
		// how many
		"buy a+^+", "buy a+^{2,3}", "buy a{2,3}^+", "buy a{2,3}^{2,3}", "buy a+ ^b",
		"buy a{^}", "buy a{^,}", "buy a{^,3}", "buy a{2^}", "buy a{2 ^3}", "buy a{2,3^,}", "buy a{2,^,}", "buy a{2,3 ^4}", "buy a{2,^b}", "buy a{^b,3}", "buy a{^'2',3}", "buy a{^-2,3}", "buy a{2,^-3}", "buy a{2,3^)", "buy a{2,^+}", "buy a{^(2,3)}",
		"buy a{^0,}", "buy a{^0,3}", "buy a{^1001,}", "buy a{^1001,2}", "buy a{1,^0}", "buy a{1,^1001}", "buy a{^9223372036854775807,}", "buy a{^9223372036854775808,}", "buy a{1,^9999999999999999999}",
	} {
		wantStuck(t, "PATTERN "+s)
	}
}

func TestNoPattern(t *testing.T) {
	for _, s := range []string{"^", "^buy a", "^pattern buy a", "^SEQ(buy a)", "^WHERE a.x = 1", "^5", "^'PATTERN' buy a", "^PATTERNS buy a", "^MATCH", "^EVERY a=buy", "^(PATTERN buy a)"} {
		wantStuck(t, s)
	}
	for _, s := range []string{"", " ", "\t\n ", strings.Repeat(" ", api.MaxSource)} {
		wantFault(t, s, len(s), api.ErrForm)
	}
	wantStuck(t, " \n ^buy a")
	wantStuck(t, " PATTERN \n ^PATTERN")
	wantFault(t, strings.Repeat(" ", api.MaxSource+1), 0, api.ErrLong)
}

// full is a query with all clauses, and clauses are their texts.
var full = api.Query{
	P:      seq(a, b),
	Where:  conditions("a.x < b.x", "a.y = 'p'"),
	Key:    "k",
	Mode:   api.MNear,
	Within: 5,
	Items:  []api.Item{item("n", api.ILast, "a", "x"), item("m", api.ICount, "b", "")},
}

var clauses = []string{"WHERE a.x < b.x AND a.y = 'p'", "PARTITION BY k", "MODE NEAR", "WITHIN 5", "RETURN LAST(a.x) AS n, COUNT(b) AS m"}

// some has those clauses of full whose bits are set.
func some(set int) api.Query {
	q := of(full.P)
	for i, put := range []func(){
		func() { q.Where = full.Where },
		func() { q.Key = full.Key },
		func() { q.Mode = full.Mode },
		func() { q.Within = full.Within },
		func() { q.Items = full.Items },
	} {
		if set>>i&1 == 1 {
			put()
		}
	}
	return q
}

func TestEachSetOfClauses(t *testing.T) {
	for set := range 1 << len(clauses) {
		s := "PATTERN SEQ(buy a, sell b)"
		for i, text := range clauses {
			if set>>i&1 == 1 {
				s += " " + text
			}
		}
		wantBoth(t, s, some(set))
	}
}

// TestClausesInOtherOrder: each of them twice, and two of them in the other order, also with others between.
func TestClausesInOtherOrder(t *testing.T) {
	for i := range clauses {
		for j := range i + 1 {
			wantStuck(t, "PATTERN buy a "+clauses[i]+" ^"+clauses[j])
			for k := j + 1; k < i; k++ {
				wantStuck(t, "PATTERN buy a "+clauses[k]+" "+clauses[i]+" ^"+clauses[j])
			}
		}
		wantStuck(t, "^"+clauses[i]+" PATTERN buy a")
		wantStuck(t, "PATTERN ^"+clauses[i]+" buy a")
		wantStuck(t, "PATTERN buy a "+clauses[i]+" ^PATTERN buy a")
		wantStuck(t, "PATTERN buy a "+clauses[i]+" ^)")
		wantStuck(t, "PATTERN (buy a ^"+clauses[i]+")")
	}
}

func TestWhere(t *testing.T) {
	for s, l := range map[string][]string{
		"a.x = 1":                               {"a.x = 1"},
		"NOT a.x = 1":                           {"NOT a.x = 1"},
		"(a.x = 1 OR a.x = 2)":                  {"a.x = 1 OR a.x = 2"},
		"a.x = 1 AND b.x = 2":                   {"a.x = 1", "b.x = 2"},
		"a.x = 1 AND NOT (b.x = 2 AND a.y = 3)": {"a.x = 1", "NOT (b.x = 2 AND a.y = 3)"},
		"(a.x = 1 OR a.x = 2) AND b.x = 2":      {"a.x = 1 OR a.x = 2", "b.x = 2"},
		"a.x = 1 AND a.x = 1":                   {"a.x = 1", "a.x = 1"},
		"a.x":                                   {"a.x"},
		"TRUE":                                  {"TRUE"},
		"zz.x = 'PATTERN (' AND NULL":           {"zz.x = 'PATTERN ('", "NULL"},
	} {
		wantBoth(t, "PATTERN buy a WHERE "+s, api.Query{P: a, Where: conditions(l...)})
		wantBoth(t, "PATTERN buy a WHERE "+s+" WITHIN 7", api.Query{P: a, Where: conditions(l...), Within: 7})
	}
	for s, l := range map[string][]string{
		"a.x = 1 OR a.x = 2":                  {"a.x = 1 OR a.x = 2"},
		"(a.x = 1)":                           {"a.x = 1"},
		"(a.x = 1 AND b.x = 2)":               {"a.x = 1", "b.x = 2"},
		"a.x = 1 AND (b.x = 2 AND a.y = 3)":   {"a.x = 1", "b.x = 2", "a.y = 3"},
		"(a.x = 1 AND b.x = 2) AND (a.y = 3)": {"a.x = 1", "b.x = 2", "a.y = 3"},
	} {
		wantQuery(t, "PATTERN buy a WHERE "+s, api.Query{P: a, Where: conditions(l...)})
	}
	for _, s := range []string{
		"^", "^WITHIN 5", "^)", "^,", "^AND", "^MODE NEAR", "^SEQ(buy a)",
		"a.x = ^", "a.x = ^WITHIN 5", "a^", "a.^", "a ^= 1", "a.x = 1 AND ^", "a.x = 1 OR ^MODE NEAR", "(a.x = 1^", "(a.x = 1 ^WITHIN 5", "NOT ^", "-^",
		"a.x = 1 ^)", "a.x = 1 ^, b.x = 2", "a.x = 1 ^b.x = 2", "a.x < 1 ^< 2", "a.x = 1 ^WHERE b.x = 2", "a.x = 1 ^buy a", "a.x = 1 ^XOR b.x = 2", "a.x = 1 ^| b.x = 2", "TRUE ^TRUE",
		"a.x = ^9223372036854775808", "a.x = -^9223372036854775809",
	} {
		wantStuck(t, "PATTERN buy a WHERE "+s)
	}
}

func TestPartition(t *testing.T) {
	for _, k := range []string{"k", "a", "k_9", strings.Repeat("k", api.MaxName)} {
		wantBoth(t, "PATTERN buy a PARTITION BY "+k, api.Query{P: a, Key: k})
	}
	for _, s := range []string{"^", "^by k", "^k", "^WITHIN 5", "BY ^", "BY ^WITHIN 5", "BY ^5", "BY ^'k'", "BY ^K", "BY ^BY k", "BY k^, l", "BY k ^l", "BY k^.l", "BY a^.x", "BY ^(k)"} {
		wantStuck(t, "PATTERN buy a PARTITION "+s)
	}
	wantStuck(t, "PATTERN buy a ^PARTITIONS BY k")
}

func TestMode(t *testing.T) {
	wantBoth(t, "PATTERN buy a MODE NEAR", api.Query{P: a, Mode: api.MNear})
	wantBoth(t, "PATTERN buy a MODE STRICT", api.Query{P: a, Mode: api.MStrict})
	wantRead(t, "PATTERN buy a MODE ANY", of(a), "PATTERN buy a")
	wantRead(t, "PATTERN buy a MODE ANY WITHIN 5", api.Query{P: a, Within: 5}, "PATTERN buy a WITHIN 5")
	for _, s := range []string{"^", "^FAR", "^near", "^any", "^1", "^'ANY'", "^WITHIN 5", "^MODE ANY", "^NEARLY", "ANY ^NEAR", "NEAR ^STRICT", "STRICT ^ANY", "^(ANY)", "ANY^, NEAR"} {
		wantStuck(t, "PATTERN buy a MODE "+s)
	}
}

func TestWithin(t *testing.T) {
	for _, n := range []int64{1, 2, 10, 1000, api.MaxWithin - 1, api.MaxWithin} {
		wantBoth(t, "PATTERN buy a WITHIN "+strconv.FormatInt(n, 10), api.Query{P: a, Within: n})
	}
	for _, s := range []string{
		"^", "^0", "^1099511627777", "^9223372036854775807", "^9223372036854775808", "^9999999999999999999",
		"^a", "^A", "^'5'", "^-5", "^+5", "^(5)", "^RETURN COUNT(a) AS n", "5 ^5", "5^, 6", "5 ^s", "5 ^SECONDS", "5 ^+ 5", "^WITHIN 5",
	} {
		wantStuck(t, "PATTERN buy a WITHIN "+s)
	}
}

func TestReturn(t *testing.T) {
	for s, l := range map[string][]api.Item{
		"FIRST(a.x) AS n":                    {item("n", api.IFirst, "a", "x")},
		"LAST(a.x) AS n":                     {item("n", api.ILast, "a", "x")},
		"COUNT(a) AS n":                      {item("n", api.ICount, "a", "")},
		"SUM(a.x) AS n":                      {item("n", api.ISum, "a", "x")},
		"SUM(a.x) AS n, SUM(a.x) AS m":       {item("n", api.ISum, "a", "x"), item("m", api.ISum, "a", "x")},
		"COUNT(zz) AS zz, FIRST(zz.zz) AS z": {item("zz", api.ICount, "zz", ""), item("z", api.IFirst, "zz", "zz")},
		"COUNT(a) AS n, FIRST(a.x) AS b, LAST(a.y) AS m, SUM(a.z) AS o": {
			item("n", api.ICount, "a", ""), item("b", api.IFirst, "a", "x"), item("m", api.ILast, "a", "y"), item("o", api.ISum, "a", "z"),
		},
	} {
		wantBoth(t, "PATTERN buy a RETURN "+s, api.Query{P: a, Items: l})
	}
	for _, s := range []string{
		"^", "^, COUNT(a) AS n", "^n", "^a.x", "^(a)", "^MIN(a.x) AS n", "^count(a) AS n", "^*", "^RETURN COUNT(a) AS n", "^AS n", "^5", "^'COUNT'(a) AS n",
		"COUNT ^", "COUNT ^a", "COUNT ^AS n", "COUNT(^", "COUNT(^)", "COUNT(^*) AS n", "COUNT(^A) AS n", "COUNT(^5) AS n", "COUNT(a^", "COUNT(a^.x) AS n", "COUNT(a ^b) AS n", "COUNT(^(a)) AS n", "COUNT(a^, b) AS n",
		"FIRST ^", "FIRST(^", "FIRST(^)", "FIRST(^.x) AS n", "FIRST(a^) AS n", "FIRST(a^", "FIRST(a.^) AS n", "FIRST(a.^", "FIRST(a.^5) AS n", "FIRST(a.x^.y) AS n", "FIRST(a.x^", "FIRST(a ^x) AS n", "LAST(a^) AS n", "SUM(a^) AS n", "SUM(a.x ^+ 1) AS n",
		"COUNT(a) ^", "COUNT(a) ^n", "COUNT(a) ^, COUNT(b) AS n", "COUNT(a) ^) AS n", "COUNT(a) AS ^", "COUNT(a) AS ^N", "COUNT(a) AS ^5", "COUNT(a) AS ^'n'", "COUNT(a) AS ^, COUNT(b) AS n", "SUM(a.x) ^", "SUM(a.x) AS ^COUNT",
		"COUNT(a) AS n ^m", "COUNT(a) AS n^.x", "COUNT(a) AS n ^COUNT(b) AS m", "COUNT(a) AS n, ^", "COUNT(a) AS n, ^m", "COUNT(a) AS n, ^, COUNT(b) AS m", "COUNT(a) AS n ^AS m", "COUNT(a) AS n ^WITHIN 5",
	} {
		wantStuck(t, "PATTERN buy a RETURN "+s)
	}
}

func TestNames(t *testing.T) {
	long := strings.Repeat("n", api.MaxName)
	wantBoth(t, "PATTERN "+long+" "+long+" WHERE "+long+"."+long+" PARTITION BY "+long+" RETURN LAST("+long+"."+long+") AS "+long, api.Query{
		P: atom(long, long), Where: []api.Expr{{K: api.XField, Var: long, Field: long}}, Key: long, Items: []api.Item{item(long, api.ILast, long, long)},
	})
	wantStuck(t, "PATTERN buy ^"+long+"n")
	wantStuck(t, "PATTERN ^n"+long+" a")
	wantBoth(t, "PATTERN n_1 a__9", of(atom("n_1", "a__9")))
}

func TestBlanks(t *testing.T) {
	wantQuery(t, "PATTERN SEQ ( buy a , ! sell b , buy c { 2 , 3 } , tick d + )", of(seq(a, not("sell", "b"), many("buy", "c", 2, 3), many("tick", "d", 1, 0))))
	wantQuery(t, "\n\tPATTERN\tSEQ(buy\na,!sell b,buy c{2,})WHERE(a.x=1)PARTITION BY k MODE\nNEAR WITHIN 5RETURN COUNT(a)AS n,SUM ( a . x ) AS m  ", api.Query{
		P: seq(a, not("sell", "b"), many("buy", "c", 2, 0)), Where: conditions("a.x = 1"), Key: "k", Mode: api.MNear, Within: 5,
		Items: []api.Item{item("n", api.ICount, "a", ""), item("m", api.ISum, "a", "x")},
	})
	wantQuery(t, "PATTERN buy a|sell b", of(or(a, b)))
	wantStuck(t, "PATTERN buy a \n\t ^b ")
	wantStuck(t, "PATTERN buy \n ^")
	s := "PATTERN buy a"
	wantQuery(t, s+strings.Repeat(" ", api.MaxSource-len(s)), of(a))
	wantFault(t, s+strings.Repeat(" ", api.MaxSource-len(s)+1), 0, api.ErrLong)
}

// TestLexRefuses: ahead of all else, also of what is wrong further ahead.
func TestLexRefuses(t *testing.T) {
	for _, s := range []string{
		"^?", "PATTERN buy a ^;", "PATTERN buy a WHERE a.x ^& 1", "PATTERN ) ( ^#", "buy ^\"a\"", "PATTERN buy a WITHIN ^05", "PATTERN buy a WITHIN ^12345678901234567890",
		"PATTERN buy a WHERE a.x = 'p^", "PATTERN buy ^_a", "PATTERN ((( ^\x00", "PATTERN buy a{^00,}", "PATTERN buy ^\xff", "PATTERN ^" + strings.Repeat("A", api.MaxName+1), "PATTERN buy a{1,1} ^:",
	} {
		wantStuck(t, s)
	}
	s := "PATTERN buy a WHERE a.x = '"
	long := s + strings.Repeat("p", api.MaxText+1) + "'"
	_, at, e := lex.All(long)
	if e != api.ErrLong {
		t.Errorf("lex.All: %d, %d", at, e)
	}
	wantFault(t, long, at, api.ErrLong)
	wantQuery(t, s+strings.Repeat("p", api.MaxText)+"'", api.Query{P: a, Where: conditions("a.x = '" + strings.Repeat("p", api.MaxText) + "'")})
	wantFault(t, "PATTERN ) "+strings.Repeat("(", api.MaxSource), 0, api.ErrLong)
}

// sum is a condition of n nodes, an odd number.
func sum(n int) string { return "a.x" + strings.Repeat(" + 1", n/2) }

func TestLongConditions(t *testing.T) {
	at := "PATTERN buy a WHERE "
	for n := 1; n < api.MaxExpr; n += 2 {
		wantQuery(t, at+sum(n), api.Query{P: a, Where: conditions(sum(n))})
	}
	// With NOT ahead: 98, 100 and 102.
	wantQuery(t, at+"NOT "+sum(api.MaxExpr-3), api.Query{P: a, Where: conditions("NOT " + sum(api.MaxExpr-3))})
	wantFault(t, at+"NOT "+sum(api.MaxExpr-1), 0, api.ErrLong)
	wantFault(t, at+"NOT "+sum(api.MaxExpr+1), len(at), api.ErrLong)
	wantFault(t, at+sum(api.MaxExpr+1), len(at), api.ErrLong)
	wantFault(t, at+sum(api.MaxExpr+1)+" WITHIN", len(at), api.ErrLong)
	wantFault(t, at+" \n "+sum(api.MaxExpr+1)+" ", len(at)+3, api.ErrLong)
	// Two parts of AND, with 99 nodes in all, and more.
	l := []string{"NOT " + sum(47), sum(51)}
	wantBoth(t, at+strings.Join(l, " AND "), api.Query{P: a, Where: conditions(l...)})
	l = append(l, "a.x")
	wantFault(t, at+strings.Join(l, " AND "), len(at), api.ErrLong)
	// As many ( open as cond takes, and one more.
	most := 2 * api.MaxExpr
	wantQuery(t, at+strings.Repeat("(", most)+"a.x"+strings.Repeat(")", most), api.Query{P: a, Where: conditions("a.x")})
	wantFault(t, at+strings.Repeat("(", most+1)+"a.x"+strings.Repeat(")", most+1), len(at)+most, api.ErrLong)
}

func TestAsManyConditionsAsMayBe(t *testing.T) {
	var l []string
	for i := range api.MaxWhere {
		l = append(l, "a.x = "+strconv.Itoa(i))
	}
	wantBoth(t, "PATTERN buy a WHERE "+strings.Join(l, " AND "), api.Query{P: a, Where: conditions(l...)})
	l = append(l, "a.x")
	wantFault(t, "PATTERN buy a WHERE "+strings.Join(l, " AND "), 0, api.ErrLong)
}

func TestAsManyItemsAsMayBe(t *testing.T) {
	var l []string
	var items []api.Item
	for i := range api.MaxItems {
		n := "n" + strconv.Itoa(i)
		l = append(l, "COUNT(a) AS "+n)
		items = append(items, item(n, api.ICount, "a", ""))
	}
	wantBoth(t, "PATTERN buy a RETURN "+strings.Join(l, ", "), api.Query{P: a, Items: items})
	wantFault(t, "PATTERN buy a RETURN "+strings.Join(l, ", ")+", COUNT(a) AS n", 0, api.ErrLong)
	wantFault(t, "PATTERN buy a RETURN "+strings.Join(l, ", ")+", COUNT(a) AS n1", 0, api.ErrLong)
	l[api.MaxItems-1] = "COUNT(a) AS n1"
	wantFault(t, "PATTERN buy a RETURN "+strings.Join(l, ", "), 0, api.ErrForm)
}

// TestReadButRefused: texts that are read to their end, but whose query can't be.
func TestReadButRefused(t *testing.T) {
	for _, s := range []string{
		"buy a{1,1}", // by query.Check
		"buy a{3,2}",
		"buy a{1000,1}",
		"SEQ(buy a, sell b{1,1})",
		"buy a RETURN COUNT(a) AS n, SUM(a.x) AS n",
		"SEQ(!sell b, buy a)", // by pat.Made
		"SEQ(!sell b)",
		"SEQ(!sell b) | buy a",
		"SEQ(buy a, SEQ(!sell b) | buy c)",
		"SEQ(buy a, !sell b, !sell c)",
		"SEQ(buy a, !sell b, SEQ(!sell c), tick d)",
		"SEQ(buy a, !sell b) | buy c",
		"SEQ(buy a, SEQ(sell b, !buy c) | tick d)",
		"SEQ(buy a, buy a)",
		"SEQ(buy a, sell b | buy a)",
		"buy a | sell a",
		"SEQ(buy a, sell a)",
	} {
		wantFault(t, "PATTERN "+s, 0, api.ErrForm)
	}
	// Too long, and wrong beside: query.Check names pat's error first, then the counts, then what is too long.
	wantFault(t, "PATTERN buy a{1,1} WHERE NOT "+sum(99), 0, api.ErrForm)
	wantFault(t, "PATTERN SEQ(buy a, buy a) WHERE NOT "+sum(99), 0, api.ErrLong)
	wantFault(t, "PATTERN "+wide(api.MaxNodes)+" RETURN COUNT(a) AS n, COUNT(a) AS n", 0, api.ErrLong)
	wantFault(t, "PATTERN buy a WHERE NOT "+sum(99)+" RETURN COUNT(a) AS n, COUNT(a) AS n", 0, api.ErrLong)
	// What can't go on comes ahead of that.
	wantStuck(t, "PATTERN SEQ(!sell b) ^)")
	wantStuck(t, "PATTERN buy a{1,1} WITHIN ^0")
	wantStuck(t, "PATTERN SEQ(buy a, buy a) MODE ^FAR")
	wantStuck(t, "PATTERN "+wide(api.MaxNodes)+" ^+")
}

// wide is the text of a SEQ of n atoms.
func wide(n int) string {
	l := make([]string, n)
	for i := range l {
		l[i] = "buy v" + strconv.Itoa(i)
	}
	return "SEQ(" + strings.Join(l, ", ") + ")"
}

// tall is a pattern that is n deep: SEQ and | in turn, the innermost an atom.
func tall(n, k int) api.Pat {
	p := atom("buy", "v"+strconv.Itoa(n))
	if n == 1 {
		return p
	}
	return api.Pat{K: k, L: []api.Pat{p, tall(n-1, api.PSeq+api.POr-k)}}
}

func TestAsManyNodesAsMayBe(t *testing.T) {
	p := seq()
	for i := range api.MaxNodes - 1 {
		p.L = append(p.L, atom("buy", "v"+strconv.Itoa(i)))
	}
	wantBoth(t, "PATTERN "+wide(api.MaxNodes-1), of(p))
	wantBoth(t, "PATTERN "+strings.NewReplacer("SEQ(", "", ")", "", ",", " |").Replace(wide(api.MaxNodes-1)), of(or(p.L...)))
	wantFault(t, "PATTERN "+wide(api.MaxNodes), 0, api.ErrLong)
	wantFault(t, "PATTERN "+wide(700), 0, api.ErrLong)
	// One node more by a | in it.
	wantFault(t, "PATTERN "+strings.Replace(wide(api.MaxNodes-1), "v0,", "v0 |", 1), 0, api.ErrLong)
	wantQuery(t, "PATTERN SEQ(SEQ("+wide(api.MaxNodes-2)+"), (buy w))", of(seq(append(slices.Clone(p.L[:api.MaxNodes-2]), atom("buy", "w"))...)))
}

func TestAsDeepAsMayBe(t *testing.T) {
	for _, k := range []int{api.PSeq, api.POr} {
		for n := 1; n <= api.MaxDeep; n++ {
			wantBoth(t, "PATTERN "+written(tall(n, k)), of(tall(n, k)))
		}
		wantFault(t, "PATTERN "+written(tall(api.MaxDeep+1, k)), 0, api.ErrLong)
		wantFault(t, "PATTERN "+written(tall(20, k)), 0, api.ErrLong)
	}
}

// nested has n ( ahead of s, each as it is told, and their ) behind it; beside it where each ( stands.
func nested(s string, n int, each func(i int) string) (string, []int) {
	var b strings.Builder
	var at []int
	for i := range n {
		x := each(i)
		b.WriteString(x)
		at = append(at, b.Len()-1)
	}
	return b.String() + s + strings.Repeat(")", n), at
}

func TestAsManyOpenAsMayBe(t *testing.T) {
	by := rand.New(rand.NewSource(19))
	for _, each := range map[string]func(int) string{
		"(":     func(int) string { return "(" },
		"SEQ(":  func(int) string { return "SEQ(" },
		"SEQ (": func(int) string { return "SEQ (" },
		"mixed": func(int) string { return []string{"(", "SEQ(", " (", "SEQ \n("}[by.Intn(4)] },
	} {
		for n := range api.MaxNodes + 1 {
			s, _ := nested("buy a", n, each)
			wantQuery(t, "PATTERN "+s, of(a))
		}
		for _, n := range []int{1, 2, 3, 100, 1000} {
			s, at := nested("buy a", api.MaxNodes+n, each)
			first := len("PATTERN ") + at[api.MaxNodes]
			s = "PATTERN " + s
			wantFault(t, s, first, api.ErrLong)
			wantFault(t, s[:first+1], first, api.ErrLong)
			// What comes behind it is not looked at; what stands ahead of it is.
			wantFault(t, s[:first+1]+" WITHIN +", first, api.ErrLong)
			wantFault(t, s[:first], first, api.ErrForm)
			wantFault(t, s[:first]+",", first, api.ErrForm)
			wantFault(t, "PATTERN ) "+s, len("PATTERN "), api.ErrForm)
		}
	}
}

// TestClosedAgain: only those that are open at once are counted.
func TestClosedAgain(t *testing.T) {
	enclosed := func(s string, n int) string { return strings.Repeat("(", n) + s + strings.Repeat(")", n) }
	var l []string
	for range 3 * api.MaxNodes {
		l = append(l, "(buy a)")
	}
	wantFault(t, "PATTERN "+strings.Join(l, " | "), 0, api.ErrLong)
	wantQuery(t, "PATTERN "+strings.Join(l[:api.MaxNodes-1], " | "), of(or(slices.Repeat([]api.Pat{a}, api.MaxNodes-1)...)))
	wantQuery(t, "PATTERN SEQ("+enclosed("buy a", 63)+", "+enclosed("sell b", 63)+", !buy c)", of(seq(a, b, not("buy", "c"))))
	wantQuery(t, "PATTERN "+enclosed("buy a", 64)+" | "+enclosed("sell b", 64)+" | "+enclosed(enclosed("buy c", 1)+" | tick d", 63), of(or(a, b, c, d)))
	s := "PATTERN SEQ(" + enclosed("buy a", 63) + ", "
	wantFault(t, s+enclosed("sell b", 64)+")", len(s)+63, api.ErrLong)
	// Those of conditions and items are none of the pattern's.
	s = "PATTERN " + enclosed("buy a", 64)
	wantQuery(t, s+" WHERE "+enclosed("a.x", 100)+" RETURN COUNT(a) AS n", api.Query{P: a, Where: conditions("a.x"), Items: []api.Item{item("n", api.ICount, "a", "")}})
}

// grammar is the chapter's, by what may stand for each of its words; the empty row is nothing.
func grammar() map[string][]string {
	return map[string][]string{
		"query":     {"PATTERN pattern where partition mode within return END"},
		"pattern":   {"one ors"},
		"ors":       {"| one ors", ""},
		"one":       {"SEQ ( part parts )", "( pattern )", "NAME NAME times"},
		"parts":     {", part parts", ""},
		"part":      {"! NAME NAME", "pattern"},
		"times":     {"+", "{ MANY , hi }", ""},
		"hi":        {"MANY", ""},
		"where":     {"WHERE CONDITION", ""},
		"partition": {"PARTITION BY NAME", ""},
		"mode":      {"MODE kind", ""},
		"kind":      {"ANY", "NEAR", "STRICT"},
		"within":    {"WITHIN TIME", ""},
		"return":    {"RETURN item items", ""},
		"items":     {", item items", ""},
		"item":      {"told ( NAME . NAME ) AS NAME", "COUNT ( NAME ) AS NAME"},
		"told":      {"FIRST", "LAST", "SUM"},
	}
}

// stands tells whether a token is what a word of the grammar that stands for no others asks.
func stands(t api.Token, s string) bool {
	n, err := strconv.ParseInt(t.S, 10, 64)
	number := t.K == api.TInt && err == nil && n >= 1
	switch s {
	case "END":
		return t.K == api.TEnd
	case "NAME":
		return t.K == api.TName
	case "MANY":
		return number && n <= api.MaxMany
	case "TIME":
		return number && n <= api.MaxWithin
	}
	return (t.K == api.TWord || t.K == api.TSign) && t.S == s
}

// begins tells whether a row of the grammar may begin with a token.
func begins(g map[string][]string, t api.Token, s string) bool {
	first, _, _ := strings.Cut(s, " ")
	if l, ok := g[first]; ok {
		return slices.ContainsFunc(l, func(s string) bool { return begins(g, t, s) })
	}
	return stands(t, first)
}

// walk goes through tokens with a row of what must come, and answers the place and the error of what can't.
func walk(s string, l []api.Token) (int, api.Errno) {
	g := grammar()
	row := []string{"query"}
	open := 0
	for len(row) > 0 {
		t, x := l[0], row[0]
		row = row[1:]
		if x == "CONDITION" {
			r, _, _ := lex.New(s[t.At:])
			_, at, e := cond.Parse(r)
			if e != api.OK {
				return t.At + at, e
			}
			l = l[r.Mark():]
			continue
		}
		if rows, ok := g[x]; ok {
			i := slices.IndexFunc(rows, func(s string) bool { return begins(g, t, s) })
			if i < 0 && rows[len(rows)-1] != "" {
				return t.At, api.ErrForm
			}
			if i >= 0 {
				row = append(strings.Fields(rows[i]), row...)
			}
			continue
		}
		if !stands(t, x) {
			return t.At, api.ErrForm
		}
		switch x {
		case "(":
			if open++; open > api.MaxNodes {
				return t.At, api.ErrLong
			}
		case ")":
			open--
		}
		l = l[1:]
	}
	return 0, api.OK
}

// isSign: a text may be quoted that is just a sign.
func isSign(t api.Token, s string) bool { return t.K == api.TSign && t.S == s }

// cutAt cuts tokens at a sign that stands in no ( ) and no { }.
func cutAt(l []api.Token, s string) [][]api.Token {
	var rows [][]api.Token
	from, deep := 0, 0
	for i, t := range l {
		switch {
		case isSign(t, "("), isSign(t, "{"):
			deep++
		case isSign(t, ")"), isSign(t, "}"):
			deep--
		case deep == 0 && isSign(t, s):
			rows = append(rows, l[from:i])
			from = i + 1
		}
	}
	return append(rows, l[from:])
}

// flat has the parts of all parts that are of that kind, whatever stood around them.
func flat(k int, l []api.Pat) api.Pat {
	if len(l) == 1 {
		return l[0]
	}
	p := api.Pat{K: k}
	for _, x := range l {
		if x.K == k {
			p.L = append(p.L, x.L...)
		} else {
			p.L = append(p.L, x)
		}
	}
	return p
}

func cutEach(k int, rows [][]api.Token) api.Pat {
	var l []api.Pat
	for _, row := range rows {
		l = append(l, cutPattern(row))
	}
	return flat(k, l)
}

func number(t api.Token) int {
	n, _ := strconv.Atoi(t.S)
	return n
}

// cutPattern takes tokens that walk has gone through.
func cutPattern(l []api.Token) api.Pat {
	if rows := cutAt(l, "|"); len(rows) > 1 {
		return cutEach(api.POr, rows)
	}
	n := len(l)
	switch {
	case isSign(l[0], "!"):
		return not(l[1].S, l[2].S)
	case isSign(l[0], "("):
		return cutPattern(l[1 : n-1])
	case l[0].S == "SEQ":
		return cutEach(api.PSeq, cutAt(l[2:n-1], ","))
	case n == 2:
		return atom(l[0].S, l[1].S)
	case n == 3:
		return many(l[0].S, l[1].S, 1, 0)
	}
	p := many(l[0].S, l[1].S, number(l[3]), 0)
	if n == 7 {
		p.Hi = number(l[5])
	}
	return p
}

// modelClauses has the tokens behind each clause's word.
func modelClauses(l []api.Token) map[string][]api.Token {
	m := map[string][]api.Token{}
	word := ""
	for _, t := range l {
		if t.K == api.TWord && slices.Contains([]string{"PATTERN", "WHERE", "PARTITION", "MODE", "WITHIN", "RETURN"}, t.S) {
			word = t.S
			continue
		}
		m[word] = append(m[word], t)
	}
	return m
}

func modelQuery(s string, l []api.Token) api.Query {
	m := modelClauses(l[:len(l)-1])
	q := of(cutPattern(m["PATTERN"]))
	if w := m["WHERE"]; w != nil {
		r, _, _ := lex.New(s[w[0].At:])
		x, _, _ := cond.Parse(r)
		if q.Where = []api.Expr{x}; x.K == api.XAnd {
			q.Where = x.L
		}
	}
	if w := m["PARTITION"]; w != nil {
		q.Key = w[1].S
	}
	if w := m["MODE"]; w != nil {
		q.Mode = map[string]int{"NEAR": api.MNear, "STRICT": api.MStrict}[w[0].S]
	}
	if w := m["WITHIN"]; w != nil {
		q.Within, _ = strconv.ParseInt(w[0].S, 10, 64)
	}
	if w := m["RETURN"]; w != nil {
		for _, row := range cutAt(w, ",") {
			n := len(row)
			x := item(row[n-1].S, map[string]int{"FIRST": api.IFirst, "LAST": api.ILast, "COUNT": api.ICount, "SUM": api.ISum}[row[0].S], row[2].S, "")
			if n == 8 {
				x.Field = row[4].S
			}
			q.Items = append(q.Items, x)
		}
	}
	return q
}

// model is Parse by other means: a walk through the grammar, then cuts at signs.
func model(s string) (api.Query, int, api.Errno) {
	l, at, e := lex.All(s)
	if e != api.OK {
		return api.Query{}, at, e
	}
	if at, e := walk(s, l); e != api.OK {
		return api.Query{}, at, e
	}
	q := modelQuery(s, l)
	switch e := query.Check(q); {
	case e == api.ErrLong:
		return api.Query{}, 0, api.ErrLong
	case e != api.OK, pat.Made(q.P) != api.OK:
		return api.Query{}, 0, api.ErrForm
	}
	return q, len(s), api.OK
}

func wantAsModel(t *testing.T, s string) (int, api.Errno) {
	t.Helper()
	q, at, e := model(s)
	x, n, got := sase.Parse(s)
	if !query.Same(x, q) || n != at || got != e {
		t.Errorf("Parse(%q): %s, %d, %d; want %s, %d, %d", s, said(x), n, got, said(q), at, e)
	}
	if e == api.OK {
		wantSaidAgain(t, q)
	}
	return at, e
}

// wantSaidAgain: P19.3, of a query that was parsed.
func wantSaidAgain(t *testing.T, q api.Query) {
	t.Helper()
	s, e := sase.Print(q)
	if s != whole(q) || e != api.OK || !sase.Says(q) {
		t.Errorf("Print(%s): %q, %d; want %q, 0", said(q), s, e, whole(q))
	}
	if len(s) <= api.MaxSource {
		wantQuery(t, s, q)
	}
}

// eachRow tells all rows of up to n words behind s with which it goes on, and those that are one word longer. A # in a word is a number that no other one has.
func eachRow(s string, words []string, n int, goesOn func(string) bool) {
	if !goesOn(s) || n == 0 {
		return
	}
	for _, w := range words {
		eachRow(s+" "+strings.ReplaceAll(w, "#", strconv.Itoa(n)), words, n-1, goesOn)
	}
}

// open: a text goes on, if nothing ahead of its end was refused.
func open(t *testing.T, seen *int) func(string) bool {
	return func(s string) bool {
		*seen++
		at, e := wantAsModel(t, s)
		return e == api.OK || at == len(s) || at == 0
	}
}

func TestEachShortPattern(t *testing.T) {
	seen := 0
	eachRow("PATTERN", []string{"n#", "SEQ", "(", ")", ",", "|", "!", "+", "{", "}", "2"}, 11, open(t, &seen))
	if seen < 10000 {
		t.Errorf("only %d", seen)
	}
}

func TestEachShortRowOfClauses(t *testing.T) {
	seen := 0
	words := []string{"WHERE", "PARTITION", "BY", "MODE", "ANY", "STRICT", "WITHIN", "RETURN", "COUNT", "SUM", "AS", "n#", "(", ")", ".", ",", "TRUE", "OR", "7"}
	eachRow("PATTERN buy a", words, 9, open(t, &seen))
	if seen < 10000 {
		t.Errorf("only %d", seen)
	}
}

// TestEachOtherToken: each token of a text in place of each other one, beside it, and gone.
func TestEachOtherToken(t *testing.T) {
	text := strings.Fields("PATTERN SEQ ( buy a , ! sell b , ( buy c { 2 , 3 } | tick d + ) ) WHERE a.x < 1 AND ( b.x OR TRUE ) PARTITION BY k MODE NEAR WITHIN 5 RETURN COUNT ( a ) AS n , FIRST ( a . x ) AS m")
	words := append(slices.Clone(text), "0", "1001", "2000000000000", "NOT", "-", "'p'", "ANY", "[", "STRICT", "LAST", "X")
	for i := range text {
		wantAsModel(t, strings.Join(text[:i], " "))
		wantAsModel(t, strings.Join(slices.Delete(slices.Clone(text), i, i+1), " "))
		for _, w := range words {
			l := slices.Clone(text)
			l[i] = w
			wantAsModel(t, strings.Join(l, " "))
			wantAsModel(t, strings.Join(slices.Insert(slices.Clone(text), i, w), " "))
		}
	}
}

// written is the text of a pattern, as P19.2 has it.
func written(p api.Pat) string {
	var l []string
	for _, x := range p.L {
		l = append(l, written(x))
	}
	switch s := p.Type + " " + p.Var; {
	case p.K == api.PSeq:
		return fmt.Sprintf("SEQ(%s)", strings.Join(l, ", "))
	case p.K == api.POr:
		return strings.Join(l, " | ")
	case p.K == api.PNot:
		return "!" + s
	case p.K == api.PMany && p.Lo == 1 && p.Hi == 0:
		return s + "+"
	case p.K == api.PMany && p.Hi == 0:
		return fmt.Sprintf("%s{%d,}", s, p.Lo)
	case p.K == api.PMany:
		return fmt.Sprintf("%s{%d,%d}", s, p.Lo, p.Hi)
	default:
		return s
	}
}

// whole is the text of a query, as P19.2 has it.
func whole(q api.Query) string {
	s := "PATTERN " + written(q.P)
	if len(q.Where) > 0 {
		row, _ := cond.Row(q.Where)
		s += " WHERE " + row
	}
	if q.Key != "" {
		s += " PARTITION BY " + q.Key
	}
	s += []string{"", " MODE NEAR", " MODE STRICT"}[q.Mode]
	if q.Within > 0 {
		s += fmt.Sprintf(" WITHIN %d", q.Within)
	}
	for i, x := range q.Items {
		s += []string{" RETURN ", ", "}[min(i, 1)]
		if x.K == api.ICount {
			s += fmt.Sprintf("COUNT(%s) AS %s", x.Var, x.Name)
		} else {
			s += fmt.Sprintf("%s(%s.%s) AS %s", []string{"", "FIRST", "LAST", "", "SUM"}[x.K], x.Var, x.Field, x.Name)
		}
	}
	return s
}

func pick[T any](by *rand.Rand, l []T) T { return l[by.Intn(len(l))] }

// grown is a pattern of about n nodes that is well made, but for its depth and size, as names has no Var twice. It has no PAnd, unless one is asked for.
func grown(by *rand.Rand, n, kinds, but int, names *int) api.Pat {
	*names++
	t, v := pick(by, []string{"buy", "sell", "t_1"}), "v"+strconv.Itoa(*names)
	if n < 3 {
		if by.Intn(3) > 0 {
			return atom(t, v)
		}
		lo := 1 + by.Intn(3)*by.Intn(api.MaxMany/2)
		hi := []int{0, lo + 1, api.MaxMany, max(lo, 2)}[by.Intn(4)]
		return many(t, v, lo, hi)
	}
	p := api.Pat{K: but}
	for p.K == but {
		p.K = api.PSeq + by.Intn(kinds)
		if kinds == 2 && p.K == api.PAnd {
			p.K = api.POr
		}
	}
	parts := 2 + by.Intn(min(n-2, 4))
	for i := range parts {
		p.L = append(p.L, grown(by, (n-1)/parts, kinds, p.K, names))
		if p.K == api.PSeq && by.Intn(3) == 0 && i < parts-1 {
			*names++
			p.L = append(p.L, not("sell", "n"+strconv.Itoa(*names)))
		}
	}
	return p
}

func someItem(by *rand.Rand, i int) api.Item {
	x := item("i"+strconv.Itoa(i), api.IFirst+by.Intn(4), pick(by, []string{"v1", "v2", "zz"}), "")
	if x.K != api.ICount {
		x.Field = pick(by, []string{"x", "y_2"})
	}
	return x
}

// someQuery has conditions of texts here, and no PAnd.
func someQuery(by *rand.Rand) api.Query {
	names := 0
	q := of(grown(by, 1+by.Intn(40), 2, 0, &names))
	if q.P.K == api.PSeq && by.Intn(3) == 0 {
		q.P.L = append(q.P.L, not("t_1", "tail"))
	}
	for range by.Intn(4) {
		q.Where = append(q.Where, condition(pick(by, []string{"v1.x = 1", "v1.x = 1 OR NOT v2.x < 3", "NOT (v1.x AND v2.x)", "-v1.x + 3 * 2 > -5", "v1.k = 'o\\'p'", "TRUE", "NULL = v1.x OR FALSE"})))
	}
	q.Key = pick(by, []string{"", "k", "sym_1"})
	q.Mode = by.Intn(3)
	q.Within = pick(by, []int64{0, 1, 10, 77777, api.MaxWithin})
	for i := range by.Intn(5) {
		q.Items = append(q.Items, someItem(by, i))
	}
	return q
}

func TestPrintAtRandom(t *testing.T) {
	by := rand.New(rand.NewSource(1901))
	for range 5000 {
		q := someQuery(by)
		if query.Check(q) != api.OK || pat.Made(q.P) != api.OK {
			if pat.Deep(q.P) <= api.MaxDeep && pat.Size(q.P) <= api.MaxNodes {
				t.Fatalf("not right: %s", said(q))
			}
			continue
		}
		was := copied(q)
		wantBoth(t, whole(q), q)
		if !query.Same(q, was) {
			t.Errorf("Print has changed %s", said(was))
		}
	}
}

// TestParseAtRandom: texts that are nearly right.
func TestParseAtRandom(t *testing.T) {
	by := rand.New(rand.NewSource(1902))
	others := []string{"(", ")", ",", "|", "!", "+", "{", "}", ".", "n", "2", "0", "SEQ", "WHERE", "MODE", "BY", "RETURN", "AS", "COUNT", "AND", "NOT", "-", "'x'"}
	for range 20000 {
		l := tokens(whole(someQuery(by)))
		for range by.Intn(3) {
			i := by.Intn(len(l))
			switch by.Intn(4) {
			case 0:
				l = slices.Delete(l, i, min(i+1, len(l)-1))
			case 1:
				l = slices.Insert(l, i, pick(by, others))
			case 2:
				l[i] = pick(by, others)
			default:
				j := by.Intn(len(l))
				l[i], l[j] = l[j], l[i]
			}
		}
		wantAsModel(t, blanked(by, l))
	}
}

// tokens are those of a text, as they stand in it.
func tokens(s string) []string {
	l, _, _ := lex.All(s)
	var words []string
	for i, x := range l[:len(l)-1] {
		words = append(words, strings.TrimRight(s[x.At:l[i+1].At], " \t\n"))
	}
	return words
}

// blanked sets tokens behind each other, with blanks where there must be, and where there may.
func blanked(by *rand.Rand, l []string) string {
	var b strings.Builder
	for i, s := range l {
		if i > 0 && (needsBlank(l[i-1], s) || by.Intn(3) == 0) {
			b.WriteString(pick(by, []string{" ", "  ", "\n", "\t", " \n "}))
		}
		b.WriteString(s)
	}
	return b.String() + pick(by, []string{"", " ", "\n"})
}

// needsBlank: would the two be read as others, if nothing stood between?
func needsBlank(a, b string) bool {
	l, _, e := lex.All(a + b)
	return e != api.OK || len(l) != 3 || l[1].At != len(a)
}

// loose is a text of p with needless ( ), and parts of SEQ and | in others of their kind.
func loose(by *rand.Rand, p api.Pat) string {
	s := written(p)
	switch p.K {
	case api.PNot:
		if by.Intn(3) == 0 {
			return "SEQ(" + s + ")"
		}
		return s
	case api.PSeq:
		s = "SEQ(" + looseParts(by, p, ", ", "SEQ(") + ")"
	case api.POr:
		s = looseParts(by, p, " | ", "(")
	}
	for by.Intn(4) == 0 {
		s = pick(by, []string{"(", "SEQ("}) + s + ")"
	}
	return s
}

// looseParts has some parts that stand beside each other in another one of their kind.
func looseParts(by *rand.Rand, p api.Pat, between, enclose string) string {
	var l []string
	for i := 0; i < len(p.L); {
		n := 1 + by.Intn(len(p.L)-i)
		if n == len(p.L) || by.Intn(2) == 0 {
			l = append(l, loosePart(by, p.K, p.L[i]))
			i++
			continue
		}
		l = append(l, enclose+looseParts(by, api.Pat{K: p.K, L: p.L[i : i+n]}, between, enclose)+")")
		i += n
	}
	return strings.Join(l, between)
}

func loosePart(by *rand.Rand, k int, p api.Pat) string {
	if k == api.POr && p.K == api.POr {
		return "(" + loose(by, p) + ")"
	}
	return loose(by, p)
}

func TestPrintOfParsed(t *testing.T) {
	by := rand.New(rand.NewSource(1903))
	for range 5000 {
		q := someQuery(by)
		if query.Check(q) != api.OK {
			continue
		}
		rest := strings.TrimPrefix(whole(q), "PATTERN "+written(q.P))
		s := blanked(by, tokens("PATTERN "+loose(by, q.P)+rest))
		if len(s) > api.MaxSource {
			continue
		}
		wantQuery(t, s, q)
		wantSaidAgain(t, q)
	}
}

// kinds has one pattern of each kind, with Vars that begin with v.
func kinds(v string) []api.Pat {
	return []api.Pat{
		atom("buy", v),
		many("buy", v, 1, 0),
		many("buy", v, 2, 0),
		many("buy", v, 2, 5),
		seq(atom("buy", v+"_a"), atom("sell", v+"_b")),
		and(atom("buy", v+"_a"), atom("sell", v+"_b")),
		or(atom("buy", v+"_a"), atom("sell", v+"_b")),
		not("buy", v),
	}
}

// TestEachKindWithinEach: what comes of it is what query.Check and pat.Made tell, then ErrSay, if there is a PAnd, then its text.
func TestEachKindWithinEach(t *testing.T) {
	seen := map[api.Errno]int{}
	for _, k := range []int{api.PSeq, api.PAnd, api.POr} {
		for _, x := range kinds("v") {
			for _, y := range kinds("w") {
				p := api.Pat{K: k, L: []api.Pat{x, y}}
				for _, p := range []api.Pat{p, seq(a, p, c), or(a, p), and(p, a), seq(a, or(p, c))} {
					seen[wantAsNamed(t, of(p))]++
				}
			}
		}
	}
	for _, x := range kinds("v") {
		seen[wantAsNamed(t, of(x))]++
	}
	for _, e := range []api.Errno{api.OK, api.ErrArg, api.ErrForm, api.ErrSay} {
		if seen[e] < 10 {
			t.Errorf("only %d with %d", seen[e], e)
		}
	}
}

// hasAnd asks one node after the other.
func hasAnd(p api.Pat) bool {
	for n := 0; ; n++ {
		x, ok := nth(p, n)
		if !ok || x.K == api.PAnd {
			return ok
		}
	}
}

// nth is the node that stands at that place, each ahead of its parts.
func nth(p api.Pat, n int) (api.Pat, bool) {
	row := []api.Pat{p}
	for i := 0; len(row) > 0; i++ {
		if i == n {
			return row[0], true
		}
		row = append(slices.Clone(row[0].L), row[1:]...)
	}
	return api.Pat{}, false
}

// wantAsNamed asks for the error that P19.2 names first, or the text.
func wantAsNamed(t *testing.T, q api.Query) api.Errno {
	t.Helper()
	e := query.Check(q)
	if e == api.OK {
		e = pat.Made(q.P)
	}
	if e == api.OK && hasAnd(q.P) {
		e = api.ErrSay
	}
	if e == api.OK {
		wantBoth(t, whole(q), q)
	} else {
		wantUnprinted(t, said(q), q, e)
	}
	return e
}

func TestAnd(t *testing.T) {
	for what, p := range map[string]api.Pat{
		"at the top":    and(a, b),
		"in a seq":      seq(a, and(b, c)),
		"first in one":  seq(and(b, c), a),
		"in an or":      or(a, and(b, c)),
		"of seqs":       and(seq(a, b), c),
		"deep inside":   or(a, seq(b, or(c, and(d, atom("buy", "e"))))),
		"before a not":  seq(and(a, b), not("tick", "d")),
		"of ands below": and(a, or(b, and(c, d))),
	} {
		wantUnprinted(t, "an and "+what, of(p), api.ErrSay)
		q := some(31)
		q.P = p
		wantUnprinted(t, "an and "+what+" with all clauses", q, api.ErrSay)
	}
}

// TestPrintRefuses: the error that is named first.
func TestPrintRefuses(t *testing.T) {
	twice, both := seq(a, a), and(a, b)
	long := conditions("NOT " + sum(99))
	for _, w := range []struct {
		what string
		q    api.Query
		e    api.Errno
	}{
		{"the zero query", api.Query{}, api.ErrArg},
		{"a kind that is none", of(api.Pat{K: 7, Type: "buy", Var: "a"}), api.ErrArg},
		{"a kind below 0", of(api.Pat{K: -1, Type: "buy", Var: "a"}), api.ErrArg},
		{"the least kind", of(api.Pat{K: math.MinInt}), api.ErrArg},
		{"a kind that is none inside", of(seq(a, b, api.Pat{})), api.ErrArg},
		{"a part too few", of(seq(a)), api.ErrArg},
		{"no parts", of(or()), api.ErrArg},
		{"empty parts", of(api.Pat{K: api.PSeq, L: []api.Pat{}}), api.ErrArg},
		{"a seq in a seq", of(seq(a, seq(b, c))), api.ErrArg},
		{"an or in an or", of(or(or(a, b), c)), api.ErrArg},
		{"an and in an and", of(and(and(a, b), c)), api.ErrArg},
		{"a Type that is no name", of(atom("BUY", "a")), api.ErrArg},
		{"a Var that is no name", of(atom("buy", "")), api.ErrArg},
		{"a Lo that can't be", of(many("buy", "a", 0, 0)), api.ErrArg},
		{"a Lo too great", of(many("buy", "a", api.MaxMany+1, 0)), api.ErrArg},
		{"a Hi too great", of(many("buy", "a", 1, api.MaxMany+1)), api.ErrArg},
		{"the greatest Hi", of(many("buy", "a", 1, math.MaxInt)), api.ErrArg},
		{"the least Lo", of(many("buy", "a", math.MinInt, 0)), api.ErrArg},
		{"one to one", of(many("buy", "a", 1, 1)), api.ErrArg},
		{"a Hi below its Lo", of(many("buy", "a", 3, 2)), api.ErrArg},
		{"a Lo of an atom", of(api.Pat{K: api.PAtom, Type: "buy", Var: "a", Lo: 1}), api.ErrArg},
		{"parts of an atom", of(api.Pat{K: api.PAtom, Type: "buy", Var: "a", L: []api.Pat{b}}), api.ErrArg},
		{"a Var of a seq", of(api.Pat{K: api.PSeq, Var: "s", L: []api.Pat{a, b}}), api.ErrArg},
		{"a Mode below 0", api.Query{P: a, Mode: -1}, api.ErrArg},
		{"a Mode that is none", api.Query{P: a, Mode: api.MStrict + 1}, api.ErrArg},
		{"the greatest Mode", api.Query{P: a, Mode: math.MaxInt}, api.ErrArg},
		{"a Within below 0", api.Query{P: a, Within: -1}, api.ErrArg},
		{"a Within too great", api.Query{P: a, Within: api.MaxWithin + 1}, api.ErrArg},
		{"the least Within", api.Query{P: a, Within: math.MinInt64}, api.ErrArg},
		{"a Key that is no name", api.Query{P: a, Key: "K"}, api.ErrArg},
		{"an item of no kind", api.Query{P: a, Items: []api.Item{item("n", 0, "a", "x")}}, api.ErrArg},
		{"an item of a kind that is none", api.Query{P: a, Items: []api.Item{item("n", 5, "a", "x")}}, api.ErrArg},
		{"an item of a kind below 0", api.Query{P: a, Items: []api.Item{item("n", math.MinInt, "a", "x")}}, api.ErrArg},
		{"an item without a Name", api.Query{P: a, Items: []api.Item{item("", api.ICount, "a", "")}}, api.ErrArg},
		{"a count of a Field", api.Query{P: a, Items: []api.Item{item("n", api.ICount, "a", "x")}}, api.ErrArg},
		{"a sum of no Field", api.Query{P: a, Items: []api.Item{item("n", api.ISum, "a", "")}}, api.ErrArg},
		{"two items of one Name", api.Query{P: a, Items: []api.Item{item("n", api.ICount, "a", ""), item("n", api.ISum, "a", "x")}}, api.ErrArg},
		{"a condition that can't be", api.Query{P: a, Where: []api.Expr{{}}}, api.ErrArg},
		{"a condition that is an XAnd", api.Query{P: a, Where: conditions("a.x AND b.x")}, api.ErrArg},
		{"too many conditions", api.Query{P: a, Where: make([]api.Expr, api.MaxWhere+1)}, api.ErrLong},
		{"too many items", api.Query{P: a, Items: make([]api.Item, api.MaxItems+1)}, api.ErrLong},
		{"too long conditions", api.Query{P: a, Where: long}, api.ErrLong},
		{"too many nodes", of(seq(make([]api.Pat, api.MaxNodes)...)), api.ErrLong},
		{"a pattern too deep", of(tall(api.MaxDeep+1, api.PSeq)), api.ErrLong},
		{"a pattern far too deep", of(tall(50000, api.PSeq)), api.ErrLong},
		{"a Var twice", of(twice), api.ErrForm},
		{"a not alone", of(not("buy", "a")), api.ErrForm},
		{"a not first", of(seq(not("buy", "a"), b)), api.ErrForm},
		{"a not in an or", of(or(not("buy", "a"), b)), api.ErrForm},
		{"a not in an and", of(and(not("buy", "a"), b)), api.ErrForm},
		{"a not behind another one", of(seq(a, not("sell", "b"), not("buy", "c"))), api.ErrForm},
		{"a not at the end of a part", of(or(seq(a, not("sell", "b")), c)), api.ErrForm},
		{"an and", of(both), api.ErrSay},
		// Several at once.
		{"a Var twice, and a Mode that is none", api.Query{P: twice, Mode: 3}, api.ErrArg},
		{"an and, and a Mode that is none", api.Query{P: both, Mode: 3}, api.ErrArg},
		{"an and, and too long conditions", api.Query{P: both, Where: long}, api.ErrLong},
		{"an and, and a Var twice", of(and(a, twice)), api.ErrForm},
		{"an and of one Var", of(and(a, a)), api.ErrForm},
		{"a Var twice, and too many items", api.Query{P: twice, Items: make([]api.Item, api.MaxItems+1)}, api.ErrLong},
		{"a kind that is none, and too many items", api.Query{Items: make([]api.Item, api.MaxItems+1)}, api.ErrArg},
	} {
		wantUnprinted(t, w.what, w.q, w.e)
		if w.e != api.ErrSay {
			if got := wantAsNamed(t, w.q); got != w.e {
				t.Errorf("%s: %d by query and pat; want %d", w.what, got, w.e)
			}
		}
	}
}

// TestNilAndEmpty: lists that are nil or empty are the same.
func TestNilAndEmpty(t *testing.T) {
	empty := api.Query{P: api.Pat{K: api.PAtom, Type: "buy", Var: "a", L: []api.Pat{}}, Where: []api.Expr{}, Items: []api.Item{}}
	wantBoth(t, "PATTERN buy a", empty)
	wantBoth(t, "PATTERN buy a", of(a))
}

// TestOtherNames: names that the pattern has not are said all the same.
func TestOtherNames(t *testing.T) {
	wantBoth(t, "PATTERN buy a WHERE z.x = 1 RETURN COUNT(z) AS z", api.Query{P: a, Where: conditions("z.x = 1"), Items: []api.Item{item("z", api.ICount, "z", "")}})
	wantBoth(t, "PATTERN SEQ(buy a, !sell b)", of(seq(a, not("sell", "b"))))
	wantBoth(t, "PATTERN SEQ(buy a, !sell b) RETURN COUNT(b) AS a", api.Query{P: seq(a, not("sell", "b")), Items: []api.Item{item("a", api.ICount, "b", "")}})
}

// TestLongerThanASource: Print knows no bound, but a text of more than MaxSource bytes is none that is read.
func TestLongerThanASource(t *testing.T) {
	long := "a.x = '" + strings.Repeat(`\x00`, api.MaxText) + "'"
	q := api.Query{P: a, Where: conditions(slices.Repeat([]string{long}, api.MaxWhere)...)}
	s, e := sase.Print(q)
	if s != whole(q) || e != api.OK || len(s) <= api.MaxSource {
		t.Errorf("Print: %d bytes, %d", len(s), e)
	}
	wantFault(t, s, 0, api.ErrLong)
}

// exprLists and patLists are all lists of an answer.
func exprLists(x *api.Expr) []*[]api.Expr {
	l := []*[]api.Expr{&x.L}
	for i := range x.L {
		l = append(l, exprLists(&x.L[i])...)
	}
	return l
}

func patLists(p *api.Pat) []*[]api.Pat {
	l := []*[]api.Pat{&p.L}
	for i := range p.L {
		l = append(l, patLists(&p.L[i])...)
	}
	return l
}

// TestListsAreApart: what is set into a list of an answer, or behind it, is seen in no other list, nor in a later answer.
func TestListsAreApart(t *testing.T) {
	s := "PATTERN SEQ(SEQ(buy a | sell b, (buy c | tick d) | buy e), SEQ(buy f, sell g) | (SEQ(buy h, !sell i, buy j))) WHERE (a.x = 1 AND b.x + 1 = 2) AND NOT a.x = 3 AND (a.x OR (b.x OR a.y)) RETURN COUNT(a) AS n, COUNT(b) AS m"
	want, _, e := sase.Parse(s)
	if e != api.OK {
		t.Fatal(e)
	}
	want = copied(want)
	n := len(patLists(&want.P))
	for i := range n {
		q, _, _ := sase.Parse(s)
		l := *patLists(&q.P)[i]
		_ = append(l, atom("z", "z"), atom("z", "z"), atom("z", "z"))
		if !query.Same(q, want) {
			t.Errorf("behind list %d of the pattern is another one", i)
		}
		clear(l)
		wantQuery(t, s, want)
	}
	n = len(exprLists(&api.Expr{L: want.Where}))
	for i := range n {
		q, _, _ := sase.Parse(s)
		l := *exprLists(&api.Expr{L: q.Where})[i]
		_ = append(l, api.Expr{K: 99}, api.Expr{K: 99}, api.Expr{K: 99})
		if !query.Same(q, want) {
			t.Errorf("behind list %d of the conditions is another one", i)
		}
		clear(l)
		wantQuery(t, s, want)
	}
	q, _, _ := sase.Parse(s)
	clear(q.Items)
	wantQuery(t, s, want)
}

// TestListsStayAsTheyWere: neither Says nor Print changes what it is handed, also where it refuses it.
func TestListsStayAsTheyWere(t *testing.T) {
	for _, p := range []api.Pat{seq(a, or(b, c), not("tick", "d")), and(a, or(b, c)), seq(a, a), seq(a, seq(b, c))} {
		q := some(31)
		q.P = p
		q = copied(q)
		was := copied(q)
		sase.Says(q)
		sase.Print(q)
		if !query.Same(q, was) {
			t.Errorf("%s has become %s", said(was), said(q))
		}
	}
	// Room behind lists stays as it was.
	room := append(make([]api.Item, 0, 8), full.Items...)
	exprs := append(make([]api.Expr, 0, 8), full.Where...)
	pats := append(make([]api.Pat, 0, 8), a, b)
	sase.Print(api.Query{P: seq(pats...), Where: exprs, Items: room})
	if room[:3][2] != (api.Item{}) || !expr.Same(exprs[:3][2], api.Expr{}) || !pat.Same(pats[:3][2], api.Pat{}) {
		t.Errorf("behind the lists: %v, %v, %v", room[:8], exprs[:8], pats[:8])
	}
}

func FuzzParse(f *testing.F) {
	for _, s := range []string{
		"PATTERN SEQ(buy a, !sell b, buy c+) WHERE a.x < c.x WITHIN 10 RETURN COUNT(c) AS n",
		"PATTERN buy a | SEQ(sell b, tick c{2,5} | tick d{3,}) PARTITION BY k MODE STRICT",
		"PATTERN (((buy a))) RETURN SUM(a.x) AS n, LAST(a.y) AS m",
	} {
		f.Add(s)
	}
	f.Fuzz(func(t *testing.T, s string) { wantAsModel(t, s) })
}
