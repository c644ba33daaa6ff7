package mr_test

import (
	"fmt"
	"math"
	"math/rand"
	"slices"
	"strconv"
	"strings"
	"testing"

	"haruspex/api"
	"haruspex/cond"
	"haruspex/expr"
	"haruspex/lex"
	"haruspex/mr"
	"haruspex/pat"
	"haruspex/query"
)

// Patterns, by their kinds.
func atom(t, v string) api.Pat { return api.Pat{K: api.PAtom, Type: t, Var: v} }

func not(t, v string) api.Pat { return api.Pat{K: api.PNot, Type: t, Var: v} }

func many(t, v string, lo, hi int) api.Pat {
	return api.Pat{K: api.PMany, Type: t, Var: v, Lo: lo, Hi: hi}
}

func seq(l ...api.Pat) api.Pat { return api.Pat{K: api.PSeq, L: l} }

func and(l ...api.Pat) api.Pat { return api.Pat{K: api.PAnd, L: l} }

func or(l ...api.Pat) api.Pat { return api.Pat{K: api.POr, L: l} }

// typeOf has the Types of the Vars that texts here speak of.
func typeOf(v string) string {
	switch v {
	case "b":
		return "sell"
	case "d":
		return "tick"
	}
	return "buy"
}

func atomOf(v string) api.Pat { return atom(typeOf(v), v) }

func manyOf(v string, lo, hi int) api.Pat { return many(typeOf(v), v, lo, hi) }

var a, b, c, d, e = atomOf("a"), atomOf("b"), atomOf("c"), atomOf("d"), atomOf("e")

func of(p api.Pat) api.Query { return api.Query{P: p, Mode: api.MNear} }

// defined has the definitions of all names of a text, in the order in which they stand there first.
func defined(s string) string {
	tokens, _, _ := lex.All(s)
	var names, l []string
	for _, t := range tokens {
		if t.K == api.TName && !slices.Contains(names, t.S) {
			names = append(names, t.S)
			l = append(l, t.S+" AS "+typeOf(t.S))
		}
	}
	return strings.Join(l, ", ")
}

// asked is the text of a query that has nothing but what it must have.
func asked(pattern string) string {
	return "MATCH (ROWS NEAR PATTERN (" + pattern + ") DEFINE " + defined(pattern) + ")"
}

// condition reads one that a test is about, but for its own text.
func condition(s string) api.Expr {
	x, _, e := cond.Text(s)
	if e != api.OK {
		panic(s)
	}
	return x
}

func conditions(l ...string) []api.Expr {
	var x []api.Expr
	for _, s := range l {
		x = append(x, condition(s))
	}
	return x
}

func item(name string, k int, v, f string) api.Item {
	return api.Item{Name: name, K: k, Var: v, Field: f}
}

func copiedExpr(x api.Expr) api.Expr {
	x.L = slices.Clone(x.L)
	for i := range x.L {
		x.L[i] = copiedExpr(x.L[i])
	}
	return x
}

func copiedPat(p api.Pat) api.Pat {
	p.L = slices.Clone(p.L)
	for i := range p.L {
		p.L[i] = copiedPat(p.L[i])
	}
	return p
}

func copied(q api.Query) api.Query {
	q.P = copiedPat(q.P)
	q.Where = copiedExpr(api.Expr{L: q.Where}).L
	q.Items = slices.Clone(q.Items)
	return q
}

func said(x any) string { return fmt.Sprintf("%.500s", fmt.Sprint(x)) }

func zero(q api.Query) bool { return query.Same(q, api.Query{}) }

func wantQuery(t *testing.T, s string, q api.Query) {
	t.Helper()
	x, at, e := mr.Parse(s)
	if !query.Same(x, q) || at != len(s) || e != api.OK {
		t.Errorf("Parse(%q): %s, %d, %d; want %s, %d, 0", s, said(x), at, e, said(q), len(s))
	}
}

func wantFault(t *testing.T, s string, at int, e api.Errno) {
	t.Helper()
	x, n, got := mr.Parse(s)
	if !zero(x) || n != at || got != e {
		t.Errorf("Parse(%.300q): %s, %d, %d; want none, %d, %d", s, said(x), n, got, at, e)
	}
}

// marked is a text without its ^, and where that stood.
func marked(t *testing.T, s string) (string, int) {
	t.Helper()
	at := strings.Index(s, "^")
	if at < 0 {
		t.Fatalf("no place in %q", s)
	}
	return s[:at] + s[at+1:], at
}

// wantStuck takes a text with a ^ ahead of the token with which nothing can go on.
func wantStuck(t *testing.T, s string) {
	t.Helper()
	s, at := marked(t, s)
	wantFault(t, s, at, api.ErrForm)
}

func wantPrinted(t *testing.T, q api.Query, s string) {
	t.Helper()
	if got, e := mr.Print(q); got != s || e != api.OK {
		t.Errorf("Print(%s): %q, %d; want %q, 0", said(q), got, e, s)
	}
	if !mr.Says(q) {
		t.Errorf("Says(%s): false", said(q))
	}
}

// wantBoth asks for a query's text, both ways.
func wantBoth(t *testing.T, s string, q api.Query) {
	t.Helper()
	wantQuery(t, s, q)
	wantPrinted(t, q, s)
}

// wantRead asks for a text that is read as q, and written otherwise.
func wantRead(t *testing.T, s string, q api.Query, as string) {
	t.Helper()
	wantQuery(t, s, q)
	wantBoth(t, as, q)
}

func wantUnprinted(t *testing.T, what string, q api.Query, e api.Errno) {
	t.Helper()
	if s, got := mr.Print(q); s != "" || got != e {
		t.Errorf("Print of %s: %q, %d; want none, %d", what, s, got, e)
	}
	if mr.Says(q) {
		t.Errorf("Says of %s: true", what)
	}
}

func TestExamples(t *testing.T) {
	wantBoth(t, "MATCH (ROWS NEAR PATTERN (a b+ | c) DEFINE a AS buy, b AS sell, c AS buy)", of(or(seq(a, manyOf("b", 1, 0)), c)))
	wantBoth(t, "MATCH (PARTITION BY k MEASURES SUM(a.x) AS n ROWS STRICT PATTERN (PERMUTE(a, b) (c{2} | d{3,}) e{2,4}) WITHIN 9 DEFINE a AS buy, b AS sell, c AS buy, d AS tick, e AS buy WHERE a.x > 0)", api.Query{
		P:   seq(and(a, b), or(manyOf("c", 2, 2), manyOf("d", 3, 0)), manyOf("e", 2, 4)),
		Key: "k", Items: []api.Item{item("n", api.ISum, "a", "x")}, Mode: api.MStrict, Within: 9, Where: conditions("a.x > 0"),
	})
}

func TestPatterns(t *testing.T) {
	for s, p := range map[string]api.Pat{
		"a":                             a,
		"a b":                           seq(a, b),
		"a b c":                         seq(a, b, c),
		"a | b":                         or(a, b),
		"a | b | c":                     or(a, b, c),
		"a b | c":                       or(seq(a, b), c),
		"a | b c":                       or(a, seq(b, c)),
		"a b | c d":                     or(seq(a, b), seq(c, d)),
		"(a | b) c":                     seq(or(a, b), c),
		"a (b | c)":                     seq(a, or(b, c)),
		"a (b | c) d":                   seq(a, or(b, c), d),
		"(a | b) (c | d)":               seq(or(a, b), or(c, d)),
		"a (b c | d)":                   seq(a, or(seq(b, c), d)),
		"a (b (c | d) | e)":             seq(a, or(seq(b, or(c, d)), e)),
		"(a (b | c) | d) e":             seq(or(seq(a, or(b, c)), d), e),
		"a | b (c | d e)":               or(a, seq(b, or(c, seq(d, e)))),
		"PERMUTE(a, b)":                 and(a, b),
		"PERMUTE(c, b, d, a)":           and(c, b, d, a),
		"PERMUTE(a, b) c":               seq(and(a, b), c),
		"a PERMUTE(b, c)":               seq(a, and(b, c)),
		"PERMUTE(a, b) PERMUTE(c, d)":   seq(and(a, b), and(c, d)),
		"PERMUTE(a, b) | c":             or(and(a, b), c),
		"a | PERMUTE(b, c)":             or(a, and(b, c)),
		"PERMUTE(a, b) | PERMUTE(a, b)": or(and(a, b), and(a, b)),
		"a (PERMUTE(b, c) | d) e":       seq(a, or(and(b, c), d), e),
		"a | b PERMUTE(c, d)":           or(a, seq(b, and(c, d))),
		"a | a":                         or(a, a),
		"a | a b":                       or(a, seq(a, b)),
		"a | a+ | a{2,3}":               or(a, manyOf("a", 1, 0), manyOf("a", 2, 3)),
		"(b | c) (a | a)":               seq(or(b, c), or(a, a)),
		"b a | a b | PERMUTE(c, a)":     or(seq(b, a), seq(a, b), and(c, a)),
		"a+":                            manyOf("a", 1, 0),
		"a{2}":                          manyOf("a", 2, 2),
		"a{2,}":                         manyOf("a", 2, 0),
		"a{1,2}":                        manyOf("a", 1, 2),
		"a{2,3}":                        manyOf("a", 2, 3),
		"a{1,1000}":                     manyOf("a", 1, api.MaxMany),
		"a{999,1000}":                   manyOf("a", api.MaxMany-1, api.MaxMany),
		"a{1000}":                       manyOf("a", api.MaxMany, api.MaxMany),
		"a{1000,}":                      manyOf("a", api.MaxMany, 0),
		"a+ | b{3,4}":                   or(manyOf("a", 1, 0), manyOf("b", 3, 4)),
		"a+ b{3} c{2,} d{1,9} e":        seq(manyOf("a", 1, 0), manyOf("b", 3, 3), manyOf("c", 2, 0), manyOf("d", 1, 9), e),
		"(a+ | b{2}) PERMUTE(c, d) | e{7,} f{70}": or(seq(or(manyOf("a", 1, 0), manyOf("b", 2, 2)), and(c, d)), seq(manyOf("e", 7, 0), manyOf("f", 70, 70))),
	} {
		wantBoth(t, asked(s), of(p))
	}
}

func TestPatternsWithNeedlessSigns(t *testing.T) {
	for s, as := range map[string]string{
		"(a)":                             "a",
		"((a))":                           "a",
		"(a+)":                            "a+",
		"a{1,}":                           "a+",
		"a{2,2}":                          "a{2}",
		"a{1000,1000}":                    "a{1000}",
		"(a b)":                           "a b",
		"((a b))":                         "a b",
		"(a) (b)":                         "a b",
		"(a b) c":                         "a b c",
		"a (b c)":                         "a b c",
		"(a b) (c d)":                     "a b c d",
		"a (b (c d))":                     "a b c d",
		"((a b) c) d":                     "a b c d",
		"((a) ((b) c)) (d)":               "a b c d",
		"(a | b)":                         "a | b",
		"(a) | (b)":                       "a | b",
		"(a | b) | c":                     "a | b | c",
		"a | (b | c)":                     "a | b | c",
		"((a | b) | (c | d))":             "a | b | c | d",
		"(a b) | c":                       "a b | c",
		"a | (b c)":                       "a | b c",
		"(a b | c)":                       "a b | c",
		"a ((b | c))":                     "a (b | c)",
		"a ((b) | (c))":                   "a (b | c)",
		"a (b | (c | d))":                 "a (b | c | d)",
		"a ((b c) | d)":                   "a (b c | d)",
		"(PERMUTE(a, b))":                 "PERMUTE(a, b)",
		"(PERMUTE(a, b)) (c)":             "PERMUTE(a, b) c",
		"a (PERMUTE(b, c) d)":             "a PERMUTE(b, c) d",
		"(PERMUTE(a, b)) | (c)":           "PERMUTE(a, b) | c",
		"((a) PERMUTE(b, c)) | (((d) e))": "a PERMUTE(b, c) | d e",
	} {
		q, _, e := mr.Parse(asked(as))
		if e != api.OK {
			t.Errorf("Parse(%q): %d", asked(as), e)
		}
		wantRead(t, asked(s), q, asked(as))
	}
}

// TestPatternsStuck: nothing goes on with the token behind the ^, in patterns.
func TestPatternsStuck(t *testing.T) {
	for _, s := range []string{
		// the end
		"^", "a^", "a ^", "a b^", "a | ^", "a | b^", "(^", "(a^", "(a | ^", "((a) ^", "PERMUTE^", "PERMUTE(^", "PERMUTE(a^", "PERMUTE(a, ^", "PERMUTE(a, b^", "PERMUTE(a, b)^", "a+^", "a{^", "a{2^", "a{2,^", "a{2,3^", "a{2}^",
		// what begins no part
		"^)", "^|", "^,", "^!a", "^! a", "^+", "^{2,3}", "^5", "^'a'", "^A", "^WHERE a.x = 1", "^MATCH (a)", "^'(' a)", "^'PERMUTE'(a, b)", "^SEQ(a, b)", "^NOT a", "^DEFINE a AS buy", "^ROWS", "^[2] a", "^<= a", "^'|' a",
		// behind a part
		"a ^, b", "a ^5", "a ^'b'", "a ^!b", "a ^B", "a ^}", "a ^*", "a ^. b", "a^.x", "a ^= buy", "a^=buy", "a ^-> b", "a ^OR b", "a ^AS buy", "a ^'|' b", "a^'+'", "a ^WITHIN 5", "a ^DEFINE a AS buy", "a b ^, c", "a ^SEQ(b)",
		// beside |
		"a | ^)", "a | ^| b", "a | ^, b", "a | ^+", "a | ^5", "a | ^DEFINE", "^| a", "^| a | b", "a b ^] c", "(a | ^)", "(^| a)", "a (b | ^) c", "a (^| b) c", "PERMUTE(a, b) | ^)",
		// ( )
		"(^)", "((^))", "a (^)", "(^) a", "(a ^, b)", "(a ^] b)", "(a^}", "(a)^+", "(a b)^+", "(a b) ^+", "(a)^{2}", "(a | b)^{2,3}", "(a) ^{2,}", "(a b) ^, c", "(a ^WITHIN 5)", "(a ^DEFINE a AS buy)", "a (b)^+ c",
		// PERMUTE
		"PERMUTE ^a", "PERMUTE ^)", "PERMUTE ^PERMUTE(a, b)", "PERMUTE ^{a, b}", "PERMUTE ^[a, b]", "PERMUTE(^)", "PERMUTE(^, a)", "PERMUTE(a^)", "PERMUTE(a, ^)", "PERMUTE(a, ^, b)", "PERMUTE(a, b, ^)", "PERMUTE(a ^b)", "PERMUTE(a ^b, c)", "PERMUTE(a, b ^c)",
		"PERMUTE(a^+, b)", "PERMUTE(a, b^+)", "PERMUTE(a^{2}, b)", "PERMUTE(a, b^{2})", "PERMUTE(^(a), b)", "PERMUTE(a, ^(b))", "PERMUTE(^(a b), c)", "PERMUTE(a ^| b)", "PERMUTE(a, b ^| c)", "PERMUTE(^PERMUTE(a, b), c)", "PERMUTE(a, ^PERMUTE(b, c))", "PERMUTE(^5, a)", "PERMUTE(a, ^5)", "PERMUTE(^'a', b)", "PERMUTE(a, ^'b')", "PERMUTE(^A, b)", "PERMUTE(a, ^B)", "PERMUTE(a^.x, b)", "PERMUTE(^!a, b)",
		"PERMUTE(a, b)^+", "PERMUTE(a, b) ^{2}", "PERMUTE(a, b)^{2,3}", "PERMUTE(a, b) ^, c", "a PERMUTE(b^)", "a | PERMUTE(b^) | c", "(PERMUTE(a^))", "^PERMUTES(a, b)", "PERMUTE(a, b^} c", "PERMUTE(a, b^]",
		// how many
		"a+^+", "a+^{2,3}", "a{2}^+", "a{2,}^+", "a{2,3}^{2,3}", "a{2}^{2}", "a+ b+^+",
		"a{^}", "a{^,}", "a{^,3}", "a{2 ^3}", "a{2,3^,}", "a{2,^,}", "a{2,3 ^4}", "a{2,^b}", "a{^b,3}", "a{^b}", "a{^'2'}", "a{^'2',3}", "a{^-2}", "a{^-2,3}", "a{2,^-3}", "a{2^)", "a{2,3^)", "a{2,^+}", "a{^+}", "a{^(2)}", "a{2^.5}", "a{2^|3}", "a{2^]", "a{^TRUE}", "a{2^*}", "a ^[2]",
		"a{^0}", "a{^0,}", "a{^0,3}", "a{^1001}", "a{^1001,}", "a{^1001,2}", "a{1,^0}", "a{2,^0}", "a{1,^1001}", "a{^1000000}", "a{^9223372036854775807}", "a{^9223372036854775808}", "a{^9223372036854775808,}", "a{1,^9999999999999999999}",
	} {
		wantStuck(t, "MATCH (ROWS NEAR PATTERN ("+s)
		// What stands behind it changes nothing, where it is not the end.
		if i := strings.Index(s, "^"); i < len(s)-1 {
			wantStuck(t, "MATCH (ROWS NEAR PATTERN ("+s+") DEFINE a AS buy, b AS sell, c AS buy)")
		}
	}
	wantStuck(t, "MATCH (ROWS NEAR PATTERN (a) ^b DEFINE a AS buy, b AS sell)")
	wantStuck(t, "MATCH (ROWS NEAR PATTERN (a)^+ DEFINE a AS buy)")
	wantStuck(t, "MATCH (ROWS NEAR PATTERN (a) ^(b) DEFINE a AS buy, b AS sell)")
	wantStuck(t, "MATCH (ROWS NEAR PATTERN (a) ^| b DEFINE a AS buy, b AS sell)")
	wantStuck(t, "MATCH (ROWS NEAR PATTERN (a)^) DEFINE a AS buy)")
	wantStuck(t, "MATCH (ROWS NEAR PATTERN ^a DEFINE a AS buy)")
	wantStuck(t, "MATCH (ROWS NEAR PATTERN ^PERMUTE(a, b) DEFINE a AS buy, b AS sell)")
	wantStuck(t, "MATCH (ROWS NEAR PATTERN ^")
}

func TestNoMatch(t *testing.T) {
	for _, s := range []string{
		"^", "^a", "^(ROWS NEAR PATTERN (a) DEFINE a AS buy)", "^match (ROWS NEAR PATTERN (a) DEFINE a AS buy)", "^ROWS NEAR PATTERN (a) DEFINE a AS buy", "^5", "^'MATCH' (ROWS NEAR PATTERN (a) DEFINE a AS buy)", "^MATCHES (ROWS NEAR PATTERN (a) DEFINE a AS buy)", "^PATTERN buy a", "^EVERY a=buy",
		"MATCH^", "MATCH ^ROWS NEAR PATTERN (a) DEFINE a AS buy", "MATCH ^MATCH (ROWS NEAR PATTERN (a) DEFINE a AS buy)", "MATCH ^{ROWS NEAR PATTERN (a) DEFINE a AS buy}", "MATCH ^) ROWS NEAR PATTERN (a) DEFINE a AS buy)", "MATCH ^a", "MATCH ^'('",
		"MATCH (^", "MATCH (^)", "MATCH (^(ROWS NEAR PATTERN (a) DEFINE a AS buy))", "MATCH (^a)", "MATCH (^MATCH (ROWS NEAR PATTERN (a) DEFINE a AS buy))",
		"MATCH (ROWS NEAR PATTERN (a) DEFINE a AS buy^", "MATCH (ROWS NEAR PATTERN (a) DEFINE a AS buy ^", "MATCH (ROWS NEAR PATTERN (a) DEFINE a AS buy ^}", "MATCH (ROWS NEAR PATTERN (a) DEFINE a AS buy WHERE a.x^", "MATCH (ROWS NEAR PATTERN (a) DEFINE a AS buy WHERE (a.x)^",
		"MATCH (ROWS NEAR PATTERN (a) DEFINE a AS buy)^)", "MATCH (ROWS NEAR PATTERN (a) DEFINE a AS buy)^, a", "MATCH (ROWS NEAR PATTERN (a) DEFINE a AS buy) ^WHERE a.x", "MATCH (ROWS NEAR PATTERN (a) DEFINE a AS buy) ^MATCH (ROWS NEAR PATTERN (a) DEFINE a AS buy)", "MATCH (ROWS NEAR PATTERN (a) DEFINE a AS buy) ^a", "MATCH (ROWS NEAR PATTERN (a) DEFINE a AS buy) ^5", "MATCH (ROWS NEAR PATTERN (a) DEFINE a AS buy)^+", "MATCH (ROWS NEAR PATTERN (a) DEFINE a AS buy WHERE a.x) ^AND b.x",
	} {
		wantStuck(t, s)
	}
	for _, s := range []string{"", " ", "\t\n ", strings.Repeat(" ", api.MaxSource)} {
		wantFault(t, s, len(s), api.ErrForm)
	}
	wantStuck(t, " \n ^a")
	wantStuck(t, " MATCH \n ^MATCH")
	wantFault(t, strings.Repeat(" ", api.MaxSource+1), 0, api.ErrLong)
}

// full is a query with all clauses.
var full = api.Query{
	P:      seq(a, b),
	Where:  conditions("a.x < b.x", "a.y = 'p'"),
	Key:    "k",
	Mode:   api.MStrict,
	Within: 5,
	Items:  []api.Item{item("n", api.ILast, "a", "x"), item("m", api.ICount, "b", "")},
}

// clauses are the texts of full's, in their order, and must tells which can't be left out.
var clauses = [7]string{"PARTITION BY k", "MEASURES LAST(a.x) AS n, COUNT(b) AS m", "ROWS STRICT", "PATTERN (a b)", "WITHIN 5", "DEFINE a AS buy, b AS sell", "WHERE a.x < b.x AND a.y = 'p'"}

var must = [7]bool{2: true, 3: true, 5: true}

// some has those clauses of full that may be left out and whose bits are set.
func some(set int) api.Query {
	q := api.Query{P: full.P, Mode: full.Mode}
	for i, put := range map[int]func(){
		0: func() { q.Key = full.Key },
		1: func() { q.Items = full.Items },
		4: func() { q.Within = full.Within },
		6: func() { q.Where = full.Where },
	} {
		if set>>i&1 == 1 {
			put()
		}
	}
	return q
}

func TestEachSetOfClauses(t *testing.T) {
	for set := range 1 << len(clauses) {
		var l []string
		stuck := false
		for i, text := range clauses {
			switch {
			case set>>i&1 == 1:
				l = append(l, text)
			case must[i] && !stuck:
				stuck = true
				l = append(l, "^")
			}
		}
		s := "MATCH (" + strings.Join(l, " ") + ")"
		if stuck {
			wantStuck(t, strings.Replace(s, "^ ", "^", 1))
		} else {
			wantBoth(t, s, some(set))
		}
	}
}

// TestClausesInOtherOrder: each of them twice, and two of them in the other order, also with others between.
func TestClausesInOtherOrder(t *testing.T) {
	in := func(l []string) string { return "MATCH (" + strings.Join(l, " ") + ")" }
	for i, text := range clauses {
		for k := i; k < len(clauses); k++ {
			wantStuck(t, in(slices.Insert(slices.Clone(clauses[:]), k+1, "^"+text)))
		}
		for j := range i {
			l := slices.Clone(clauses[:])
			l[i], l[j] = l[j], l[i]
			at := j
			if !slices.Contains(must[j:i], true) { // where what stands between may be left out, the later one may stand there
				at++
			}
			l[at] = "^" + l[at]
			wantStuck(t, in(l))
		}
		wantStuck(t, "^"+text+" "+in(clauses[:]))
		wantStuck(t, "MATCH ^"+text)
		wantStuck(t, in(clauses[:])+" ^"+text)
		ahead := "MATCH (" + strings.Join(clauses[:i+1], " ")
		for _, s := range []string{"^MATCH (", "^MODE NEAR", "^RETURN COUNT(a) AS n", "^(", "^5", "^'p'", "^;"} {
			wantStuck(t, ahead+" "+s)
		}
	}
	wantStuck(t, "MATCH (ROWS NEAR PATTERN (a ^WITHIN 5) DEFINE a AS buy)")
}

// with is the text of a query of one part, with clauses ahead of what it must have, behind its pattern, and at its end.
func with(ahead, between, end string) string {
	join := func(l ...string) string {
		return strings.Join(slices.DeleteFunc(l, func(s string) bool { return s == "" }), " ")
	}
	return "MATCH (" + join(ahead, "ROWS NEAR PATTERN (a)", between, "DEFINE a AS buy", end) + ")"
}

func TestWhere(t *testing.T) {
	for s, l := range map[string][]string{
		"a.x = 1":                               {"a.x = 1"},
		"NOT a.x = 1":                           {"NOT a.x = 1"},
		"(a.x = 1 OR a.x = 2)":                  {"a.x = 1 OR a.x = 2"},
		"a.x = 1 AND b.x = 2":                   {"a.x = 1", "b.x = 2"},
		"a.x = 1 AND NOT (b.x = 2 AND a.y = 3)": {"a.x = 1", "NOT (b.x = 2 AND a.y = 3)"},
		"(a.x = 1 OR a.x = 2) AND b.x = 2":      {"a.x = 1 OR a.x = 2", "b.x = 2"},
		"a.x = 1 AND a.x = 1":                   {"a.x = 1", "a.x = 1"},
		"a.x":                                   {"a.x"},
		"TRUE":                                  {"TRUE"},
		"zz.x = 'MATCH (' AND NULL":             {"zz.x = 'MATCH ('", "NULL"},
	} {
		wantBoth(t, with("", "", "WHERE "+s), api.Query{P: a, Mode: api.MNear, Where: conditions(l...)})
	}
	for s, l := range map[string][]string{
		"a.x = 1 OR a.x = 2":                  {"a.x = 1 OR a.x = 2"},
		"(a.x = 1)":                           {"a.x = 1"},
		"((((a.x)) = 1))":                     {"a.x = 1"},
		"(a.x = 1 AND b.x = 2)":               {"a.x = 1", "b.x = 2"},
		"a.x = 1 AND (b.x = 2 AND a.y = 3)":   {"a.x = 1", "b.x = 2", "a.y = 3"},
		"(a.x = 1 AND b.x = 2) AND (a.y = 3)": {"a.x = 1", "b.x = 2", "a.y = 3"},
	} {
		wantQuery(t, with("", "", "WHERE "+s), api.Query{P: a, Mode: api.MNear, Where: conditions(l...)})
	}
	for _, s := range []string{
		"^", "^)", "^WITHIN 5)", "^,", "^AND", "^DEFINE a AS buy", "^WHERE a.x",
		"a.x = ^", "a.x = ^)", "a^", "a^)", "a.^", "a ^= 1", "a.x = 1 AND ^)", "a.x = 1 OR ^ROWS NEAR)", "(a.x = 1^", "(a.x = 1 ^WITHIN 5)", "NOT ^)", "-^)",
		"a.x = 1 ^, b.x = 2)", "a.x = 1 ^b.x = 2)", "a.x < 1 ^< 2)", "a.x = 1 ^WHERE b.x = 2)", "a.x = 1 ^buy a)", "a.x = 1 ^XOR b.x = 2)", "a.x = 1 ^| b.x = 2)", "TRUE ^TRUE)", "a.x = 1 ^WITHIN 5)", "a.x = 1 ^PARTITION BY k)", "a.x = 1 ^DEFINE b AS buy)",
		"a.x = ^9223372036854775808)", "a.x = -^9223372036854775809)", "(a.x = 1)^", "(a.x = 1))^)", "a.x = 1^", "a.x = 1)^)",
	} {
		wantStuck(t, "MATCH (ROWS NEAR PATTERN (a) DEFINE a AS buy WHERE "+s)
	}
}

func TestPartition(t *testing.T) {
	for _, k := range []string{"k", "a", "k_9", strings.Repeat("k", api.MaxName)} {
		wantBoth(t, with("PARTITION BY "+k, "", ""), api.Query{P: a, Mode: api.MNear, Key: k})
	}
	for _, s := range []string{"^", "^by k", "^k", "^ROWS NEAR", "BY ^", "BY ^ROWS NEAR", "BY ^5", "BY ^'k'", "BY ^K", "BY ^BY k", "BY k^, l", "BY k ^l", "BY k^.l", "BY a^.x", "BY ^(k)", "BY k ^BY k", "BY k ^PARTITION BY k", "BY k ^)", "BY k^"} {
		wantStuck(t, "MATCH (PARTITION "+s)
		if i := strings.Index(s, "^"); i < len(s)-1 {
			wantStuck(t, "MATCH (PARTITION "+s+" ROWS NEAR PATTERN (a) DEFINE a AS buy)")
		}
	}
	wantStuck(t, "MATCH (^PARTITIONS BY k ROWS NEAR PATTERN (a) DEFINE a AS buy)")
}

func TestRows(t *testing.T) {
	wantBoth(t, "MATCH (ROWS NEAR PATTERN (a) DEFINE a AS buy)", of(a))
	wantBoth(t, "MATCH (ROWS STRICT PATTERN (a) DEFINE a AS buy)", api.Query{P: a, Mode: api.MStrict})
	for _, s := range []string{"^", "^ANY", "^FAR", "^near", "^strict", "^1", "^'NEAR'", "^PATTERN (a)", "^ROWS NEAR", "^NEARLY", "NEAR ^NEAR", "NEAR ^STRICT", "STRICT ^ANY", "^(NEAR)", "NEAR^, STRICT", "NEAR ^WITHIN 5", "NEAR ^DEFINE a AS buy", "NEAR ^(a)", "NEAR ^a", "NEAR^", "NEAR ^)", "NEAR ^pattern (a)", "NEAR ^'PATTERN' (a)"} {
		wantStuck(t, "MATCH (ROWS "+s)
		if i := strings.Index(s, "^"); i < len(s)-1 {
			wantStuck(t, "MATCH (ROWS "+s+" PATTERN (a) DEFINE a AS buy)")
		}
	}
	for _, s := range []string{"^PATTERN (a)", "^NEAR PATTERN (a)", "^MODE NEAR PATTERN (a)", "^ROW NEAR PATTERN (a)", "^rows NEAR PATTERN (a)", "^)"} {
		wantStuck(t, "MATCH ("+s+" DEFINE a AS buy)")
		wantStuck(t, "MATCH (PARTITION BY k "+s+" DEFINE a AS buy)")
		wantStuck(t, "MATCH (MEASURES COUNT(a) AS n "+s+" DEFINE a AS buy)")
	}
}

func TestWithin(t *testing.T) {
	for _, n := range []int64{1, 2, 10, 1000, api.MaxWithin - 1, api.MaxWithin} {
		wantBoth(t, with("", "WITHIN "+strconv.FormatInt(n, 10), ""), api.Query{P: a, Mode: api.MNear, Within: n})
	}
	for _, s := range []string{
		"^", "^0", "^1099511627777", "^9223372036854775807", "^9223372036854775808", "^9999999999999999999",
		"^a", "^A", "^'5'", "^-5", "^+5", "^(5)", "^DEFINE a AS buy", "5 ^5", "5^, 6", "5 ^s", "5 ^SECONDS", "5 ^+ 5", "^WITHIN 5", "5 ^WITHIN 5", "5 ^WHERE a.x", "5^", "5 ^)",
	} {
		wantStuck(t, "MATCH (ROWS NEAR PATTERN (a) WITHIN "+s)
		if i := strings.Index(s, "^"); i < len(s)-1 {
			wantStuck(t, "MATCH (ROWS NEAR PATTERN (a) WITHIN "+s+" DEFINE a AS buy)")
		}
	}
}

func TestMeasures(t *testing.T) {
	for s, l := range map[string][]api.Item{
		"FIRST(a.x) AS n":                    {item("n", api.IFirst, "a", "x")},
		"LAST(a.x) AS n":                     {item("n", api.ILast, "a", "x")},
		"COUNT(a) AS n":                      {item("n", api.ICount, "a", "")},
		"SUM(a.x) AS n":                      {item("n", api.ISum, "a", "x")},
		"SUM(a.x) AS n, SUM(a.x) AS m":       {item("n", api.ISum, "a", "x"), item("m", api.ISum, "a", "x")},
		"COUNT(zz) AS zz, FIRST(zz.zz) AS z": {item("zz", api.ICount, "zz", ""), item("z", api.IFirst, "zz", "zz")},
		"COUNT(a) AS n, FIRST(a.x) AS b, LAST(a.y) AS m, SUM(a.z) AS o": {
			item("n", api.ICount, "a", ""), item("b", api.IFirst, "a", "x"), item("m", api.ILast, "a", "y"), item("o", api.ISum, "a", "z"),
		},
	} {
		wantBoth(t, with("MEASURES "+s, "", ""), api.Query{P: a, Mode: api.MNear, Items: l})
	}
	for _, s := range []string{
		"^", "^, COUNT(a) AS n", "^n", "^a.x", "^(a)", "^MIN(a.x) AS n", "^count(a) AS n", "^*", "^MEASURES COUNT(a) AS n", "^AS n", "^5", "^'COUNT'(a) AS n", "^ROWS NEAR", "^)",
		"COUNT^", "COUNT ^a", "COUNT ^AS n", "COUNT(^", "COUNT(^)", "COUNT(^*) AS n", "COUNT(^A) AS n", "COUNT(^5) AS n", "COUNT(a^", "COUNT(a^.x) AS n", "COUNT(a ^b) AS n", "COUNT(^(a)) AS n", "COUNT(a^, b) AS n",
		"FIRST^", "FIRST(^", "FIRST(^)", "FIRST(^.x) AS n", "FIRST(a^) AS n", "FIRST(a^", "FIRST(a.^) AS n", "FIRST(a.^", "FIRST(a.^5) AS n", "FIRST(a.x^.y) AS n", "FIRST(a.x^", "FIRST(a ^x) AS n", "LAST(a^) AS n", "SUM(a^) AS n", "SUM(a.x ^+ 1) AS n",
		"COUNT(a)^", "COUNT(a) ^n", "COUNT(a)^, COUNT(b) AS n", "COUNT(a) ^ROWS NEAR", "COUNT(a) ^) AS n", "COUNT(a) AS^", "COUNT(a) AS ^N", "COUNT(a) AS ^5", "COUNT(a) AS ^'n'", "COUNT(a) AS ^, COUNT(b) AS n", "COUNT(a) AS ^ROWS NEAR", "SUM(a.x)^", "SUM(a.x) AS ^COUNT",
		"COUNT(a) AS n ^m", "COUNT(a) AS n^.x", "COUNT(a) AS n ^COUNT(b) AS m", "COUNT(a) AS n, ^", "COUNT(a) AS n, ^m", "COUNT(a) AS n, ^, COUNT(b) AS m", "COUNT(a) AS n ^AS m", "COUNT(a) AS n ^WITHIN 5", "COUNT(a) AS n ^PARTITION BY k", "COUNT(a) AS n, ^ROWS NEAR", "COUNT(a) AS n^", "COUNT(a) AS n ^)",
	} {
		wantStuck(t, "MATCH (MEASURES "+s)
		if i := strings.Index(s, "^"); i < len(s)-1 {
			wantStuck(t, "MATCH (MEASURES "+s+" ROWS NEAR PATTERN (a) DEFINE a AS buy)")
		}
	}
}

func TestDefine(t *testing.T) {
	p := seq(a, or(b, manyOf("c", 1, 0)), and(d, e))
	in := "MATCH (ROWS NEAR PATTERN (a (b | c+) PERMUTE(d, e)) DEFINE "
	l := []string{"a AS buy", "b AS sell", "c AS buy", "d AS tick", "e AS buy"}
	wantBoth(t, in+strings.Join(l, ", ")+")", of(p))
	// In other orders.
	by := rand.New(rand.NewSource(2100))
	for range 200 {
		by.Shuffle(len(l), func(i, j int) { l[i], l[j] = l[j], l[i] })
		wantQuery(t, in+strings.Join(l, ", ")+")", of(p))
		wantQuery(t, in+strings.Join(l, ", ")+" WHERE a.x)", api.Query{P: p, Mode: api.MNear, Where: conditions("a.x")})
		for i := range l {
			// One too few, one twice, one of none.
			few := slices.Delete(slices.Clone(l), i, i+1)
			for _, behind := range []string{"^)", "^", "^WHERE a.x)", "^DEFINE a AS buy)", "^a AS buy)", "^5", "^WITHIN 5)"} {
				wantStuck(t, in+strings.Join(few, ", ")+" "+behind)
			}
			wantStuck(t, in+strings.Join(few, ", ")+"^)")
			wantStuck(t, in+strings.Join(few, ", ")+", ^)")
			for k := i + 1; k <= len(l); k++ {
				again := "^" + l[i][:1] + " AS other"
				wantStuck(t, in+strings.Join(slices.Insert(slices.Clone(l), k, again), ", ")+")")
				if k > i+1 {
					twice := slices.Clone(l)
					twice[k-1] = again // so that another one has none, too
					wantStuck(t, in+strings.Join(twice, ", ")+")")
				}
			}
			for _, none := range []string{"^f AS buy", "^buy AS buy", "^aa AS buy", "^x AS a", "^f"} {
				wantStuck(t, in+strings.Join(slices.Insert(slices.Clone(l), i, none), ", ")+")")
				instead := slices.Clone(l)
				instead[i] = none
				wantStuck(t, in+strings.Join(instead, ", ")+")")
			}
		}
		wantStuck(t, in+strings.Join(l, ", ")+", ^f AS buy)")
		wantStuck(t, in+strings.Join(l, ", ")+", ^)")
		wantStuck(t, in+strings.Join(l, ", ")+" ^a AS buy)")
	}
}

func TestDefineStuck(t *testing.T) {
	for _, s := range []string{
		"^", "^)", "^, a AS buy", "^a AS buy", "^DEFINES a AS buy", "^define a AS buy", "^(a AS buy)", "^WHERE a.x", "^5", "^'DEFINE' a AS buy", "^AS buy",
	} {
		wantStuck(t, "MATCH (ROWS NEAR PATTERN (a) "+s)
		wantStuck(t, "MATCH (ROWS NEAR PATTERN (a) WITHIN 5 "+s)
	}
	for _, s := range []string{
		"^", "^)", "^, a AS buy)", "^AS buy)", "^A AS buy)", "^'a' AS buy)", "^5 AS buy)", "^(a) AS buy)", "^DEFINE a AS buy)", "^WHERE a.x)",
		"a^", "a^)", "a ^buy)", "a^, b AS buy)", "a ^= buy)", "a^=buy)", "a ^as buy)", "a ^5)", "a ^'AS' buy)", "a ^WHERE a.x)", "a^.x AS buy)", "a ^IS buy)", "a^+ AS buy)",
		"a AS^", "a AS^)", "a AS ^BUY)", "a AS ^'buy')", "a AS ^5)", "a AS ^, b AS buy)", "a AS ^AS buy)", "a AS ^(buy))", "a AS ^WHERE a.x)",
		"a AS buy^", "a AS buy ^sell)", "a AS buy ^| sell)", "a AS buy^.x)", "a AS buy^+)", "a AS buy, ^)", "a AS buy,^", "a AS buy, ^, a AS buy)", "a AS buy, ^5)", "a AS buy, ^WHERE a.x)", "a AS buy, ^a AS buy)", "a AS buy, ^a AS sell)", "a AS buy, ^b AS buy)", "a AS buy ^AS sell)", "a AS buy ^WITHIN 5)", "a AS buy, ^buy AS a)", "a AS buy, ^a", "a AS buy, ^b",
		"^b AS buy)", "^b AS buy, a AS buy)", "^b", "^b)", "^b AS)", "^b a AS buy)", "^buy AS a)", "^aa AS buy)", "^a_ AS buy)",
	} {
		wantStuck(t, "MATCH (ROWS NEAR PATTERN (a) DEFINE "+s)
	}
	// The first that can't be is told, whatever is wrong behind it.
	wantStuck(t, "MATCH (ROWS NEAR PATTERN (a b) DEFINE ^c AS buy, a AS)")
	wantStuck(t, "MATCH (ROWS NEAR PATTERN (a b) DEFINE a AS buy, ^a AS buy, c AS buy) )")
	wantStuck(t, "MATCH (ROWS NEAR PATTERN (a b) DEFINE a AS ^, c AS buy)")
	wantStuck(t, "MATCH (ROWS NEAR PATTERN (a b) DEFINE a AS buy ^WHERE )")
	wantStuck(t, "MATCH (ROWS NEAR PATTERN (a a) DEFINE ^b AS buy)")
	wantStuck(t, "MATCH (ROWS NEAR PATTERN (a{1}) DEFINE ^b AS buy)")
	wantStuck(t, "MATCH (ROWS NEAR PATTERN (a{1} b) DEFINE a AS buy^)")
	// But what lex refuses is told ahead.
	wantStuck(t, "MATCH (ROWS NEAR PATTERN (a) DEFINE b AS buy ^?)")
}

// TestDefineOnce: a Var that stands several times is defined once, and has its Type wherever it stands.
func TestDefineOnce(t *testing.T) {
	for s, p := range map[string]api.Pat{
		"b | b":                or(b, b),
		"b | b+ | b{2}":        or(b, manyOf("b", 1, 0), manyOf("b", 2, 2)),
		"a b | b a":            or(seq(a, b), seq(b, a)),
		"PERMUTE(a, b) | b":    or(and(a, b), b),
		"d (b | c b | a b{2})": seq(d, or(b, seq(c, b), seq(a, manyOf("b", 2, 2)))),
	} {
		wantBoth(t, asked(s), of(p))
		wantStuck(t, strings.TrimSuffix(asked(s), ")")+", ^b AS sell)")
	}
	wantFault(t, asked("b b"), 0, api.ErrForm)
	wantStuck(t, "MATCH (ROWS NEAR PATTERN (b b) DEFINE b AS sell, ^b AS sell)")
	wantStuck(t, "MATCH (ROWS NEAR PATTERN (b | b) DEFINE b AS sell, ^b AS buy)")
	// Names of Types, Vars and others may be the same.
	wantBoth(t, "MATCH (PARTITION BY a MEASURES COUNT(a) AS a ROWS NEAR PATTERN (a buy) DEFINE a AS buy, buy AS a)", api.Query{
		P: seq(atom("buy", "a"), atom("a", "buy")), Key: "a", Mode: api.MNear, Items: []api.Item{item("a", api.ICount, "a", "")},
	})
}

func TestNames(t *testing.T) {
	long := strings.Repeat("n", api.MaxName)
	wantBoth(t, "MATCH (PARTITION BY "+long+" MEASURES LAST("+long+"."+long+") AS "+long+" ROWS STRICT PATTERN ("+long+") DEFINE "+long+" AS "+long+" WHERE "+long+"."+long+")", api.Query{
		P: atom(long, long), Where: []api.Expr{{K: api.XField, Var: long, Field: long}}, Key: long, Mode: api.MStrict, Items: []api.Item{item(long, api.ILast, long, long)},
	})
	wantStuck(t, "MATCH (ROWS NEAR PATTERN (^"+long+"n) DEFINE a AS buy)")
	wantStuck(t, "MATCH (ROWS NEAR PATTERN (a) DEFINE a AS ^"+long+"n)")
	wantBoth(t, "MATCH (ROWS NEAR PATTERN (a__9) DEFINE a__9 AS n_1)", of(atom("n_1", "a__9")))
}

func TestBlanks(t *testing.T) {
	wantQuery(t, "MATCH ( ROWS NEAR PATTERN ( a + b { 2 } c { 2 , } ( d { 2 , 3 } | PERMUTE ( e , f ) ) ) DEFINE a AS buy , b AS sell , c AS buy , d AS tick , e AS buy , f AS buy )", of(
		seq(manyOf("a", 1, 0), manyOf("b", 2, 2), manyOf("c", 2, 0), or(manyOf("d", 2, 3), and(e, atomOf("f"))))))
	wantQuery(t, "\n\tMATCH(PARTITION\nBY\tk MEASURES COUNT(a)AS n,SUM ( a . x ) AS m ROWS\nSTRICT PATTERN(a+b{2}c{2,}(d{2,3}|PERMUTE(e,f)))WITHIN 5DEFINE a AS buy,b AS sell,c AS buy,d AS tick,e\nAS\nbuy,f AS buy WHERE(a.x=1))  ", api.Query{
		P:   seq(manyOf("a", 1, 0), manyOf("b", 2, 2), manyOf("c", 2, 0), or(manyOf("d", 2, 3), and(e, atomOf("f")))),
		Key: "k", Items: []api.Item{item("n", api.ICount, "a", ""), item("m", api.ISum, "a", "x")}, Mode: api.MStrict, Within: 5, Where: conditions("a.x = 1"),
	})
	wantQuery(t, "MATCH(ROWS NEAR PATTERN(a|b)DEFINE a AS buy,b AS sell)", of(or(a, b)))
	wantStuck(t, "MATCH ( \n\t ^b ")
	wantStuck(t, "MATCH \n ^")
	s := asked("a")
	wantQuery(t, s+strings.Repeat(" ", api.MaxSource-len(s)), of(a))
	wantFault(t, s+strings.Repeat(" ", api.MaxSource-len(s)+1), 0, api.ErrLong)
}

// TestLexRefuses: ahead of all else, also of what is wrong further ahead.
func TestLexRefuses(t *testing.T) {
	for _, s := range []string{
		"^?", "MATCH (a ^;", "MATCH (ROWS NEAR PATTERN (a) DEFINE a AS buy WHERE a.x ^& 1)", "MATCH ) ( ^#", "MATCH (a ^\"a\"", "MATCH (ROWS NEAR PATTERN (a) WITHIN ^05", "MATCH (ROWS NEAR PATTERN (a) WITHIN ^12345678901234567890",
		"MATCH (ROWS NEAR PATTERN (a) DEFINE a AS buy WHERE a.x = 'p^", "MATCH (ROWS NEAR PATTERN (^_a", "MATCH ((( ^\x00", "MATCH (ROWS NEAR PATTERN (a{^00})", "MATCH a ^\xff", "MATCH ^" + strings.Repeat("A", api.MaxName+1), "MATCH (ROWS NEAR PATTERN (a{1}) DEFINE a AS buy) ^:",
	} {
		wantStuck(t, s)
	}
	s := "MATCH (ROWS NEAR PATTERN (a) DEFINE a AS buy WHERE a.x = '"
	long := s + strings.Repeat("p", api.MaxText+1) + "')"
	_, at, e := lex.All(long)
	if e != api.ErrLong {
		t.Errorf("lex.All: %d, %d", at, e)
	}
	wantFault(t, long, at, api.ErrLong)
	wantQuery(t, s+strings.Repeat("p", api.MaxText)+"')", api.Query{P: a, Mode: api.MNear, Where: conditions("a.x = '" + strings.Repeat("p", api.MaxText) + "'")})
	wantFault(t, "MATCH ) "+strings.Repeat("(", api.MaxSource), 0, api.ErrLong)
}

// sum is a condition of n nodes, an odd number.
func sum(n int) string { return "a.x" + strings.Repeat(" + 1", n/2) }

func TestLongConditions(t *testing.T) {
	at := "MATCH (ROWS NEAR PATTERN (a) DEFINE a AS buy WHERE "
	where := func(l ...string) api.Query { return api.Query{P: a, Mode: api.MNear, Where: conditions(l...)} }
	for n := 1; n < api.MaxExpr; n += 2 {
		wantQuery(t, at+sum(n)+")", where(sum(n)))
	}
	// With NOT ahead: 98, 100 and 102.
	wantQuery(t, at+"NOT "+sum(api.MaxExpr-3)+")", where("NOT "+sum(api.MaxExpr-3)))
	wantFault(t, at+"NOT "+sum(api.MaxExpr-1)+")", 0, api.ErrLong)
	wantFault(t, at+"NOT "+sum(api.MaxExpr+1)+")", len(at), api.ErrLong)
	wantFault(t, at+sum(api.MaxExpr+1)+")", len(at), api.ErrLong)
	wantFault(t, at+sum(api.MaxExpr+1), len(at), api.ErrLong)
	wantFault(t, at+sum(api.MaxExpr+1)+" WITHIN", len(at), api.ErrLong)
	wantFault(t, at+" \n "+sum(api.MaxExpr+1)+" )", len(at)+3, api.ErrLong)
	// Two parts of AND, with 99 nodes in all, and more.
	l := []string{"NOT " + sum(47), sum(51)}
	wantBoth(t, at+strings.Join(l, " AND ")+")", where(l...))
	l = append(l, "a.x")
	wantFault(t, at+strings.Join(l, " AND ")+")", len(at), api.ErrLong)
	// As many ( open as cond takes, and one more: those of the query are not counted with them.
	most := 2 * api.MaxExpr
	wantQuery(t, at+strings.Repeat("(", most)+"a.x"+strings.Repeat(")", most)+")", where("a.x"))
	wantFault(t, at+strings.Repeat("(", most+1)+"a.x"+strings.Repeat(")", most+2), len(at)+most, api.ErrLong)
}

func TestAsManyConditionsAsMayBe(t *testing.T) {
	var l []string
	for i := range api.MaxWhere {
		l = append(l, "a.x = "+strconv.Itoa(i))
	}
	wantBoth(t, with("", "", "WHERE "+strings.Join(l, " AND ")), api.Query{P: a, Mode: api.MNear, Where: conditions(l...)})
	l = append(l, "a.x")
	wantFault(t, with("", "", "WHERE "+strings.Join(l, " AND ")), 0, api.ErrLong)
}

func TestAsManyItemsAsMayBe(t *testing.T) {
	var l []string
	var items []api.Item
	for i := range api.MaxItems {
		n := "n" + strconv.Itoa(i)
		l = append(l, "COUNT(a) AS "+n)
		items = append(items, item(n, api.ICount, "a", ""))
	}
	wantBoth(t, with("MEASURES "+strings.Join(l, ", "), "", ""), api.Query{P: a, Mode: api.MNear, Items: items})
	wantFault(t, with("MEASURES "+strings.Join(l, ", ")+", COUNT(a) AS n", "", ""), 0, api.ErrLong)
	wantFault(t, with("MEASURES "+strings.Join(l, ", ")+", COUNT(a) AS n1", "", ""), 0, api.ErrLong)
	l[api.MaxItems-1] = "COUNT(a) AS n1"
	wantFault(t, with("MEASURES "+strings.Join(l, ", "), "", ""), 0, api.ErrForm)
}

// TestReadButRefused: texts that are read to their end, but whose query can't be.
func TestReadButRefused(t *testing.T) {
	for _, s := range []string{
		"a{1}", // by query.Check
		"a{1,1}",
		"a{3,2}",
		"a{1000,1}",
		"a b{1}",
		"a | (b{2,1} c)",
		"a a", // by pat.Made
		"a (b | a)",
		"(a | b) (c | a)",
		"a b c d a",
		"a a+",
		"a{2} b a{2}",
		"PERMUTE(a, a)",
		"PERMUTE(a, b, a)",
		"PERMUTE(a, b) b",
		"PERMUTE(a, b) PERMUTE(c, a)",
		"c | PERMUTE(a, a)",
		"c (PERMUTE(a, a))",
		"a | b b",
		"(a | b | a) a",
	} {
		wantFault(t, asked(s), 0, api.ErrForm)
	}
	wantFault(t, with("MEASURES COUNT(a) AS n, SUM(a.x) AS n", "", ""), 0, api.ErrForm)
	// Too long, and wrong beside: query.Check names pat's error first, then the counts, then what is too long.
	behind := func(pattern, s string) string { return strings.TrimSuffix(asked(pattern), ")") + s + ")" }
	twice := func(s string) string {
		return strings.Replace(s, "MATCH (", "MATCH (MEASURES COUNT(a) AS n, COUNT(a) AS n ", 1)
	}
	wantFault(t, behind("a{1}", " WHERE NOT "+sum(99)), 0, api.ErrForm)
	wantFault(t, behind("a a", " WHERE NOT "+sum(99)), 0, api.ErrLong)
	wantFault(t, twice(asked("a")), 0, api.ErrForm)
	wantFault(t, twice(asked(wide(api.MaxNodes))), 0, api.ErrLong)
	wantFault(t, twice(behind("a", " WHERE NOT "+sum(99))), 0, api.ErrLong)
	// What can't go on comes ahead of that.
	wantStuck(t, asked("a{1}")+" ^)")
	wantStuck(t, behind("a{1}", " ^WITHIN 5"))
	wantStuck(t, behind("a a", " WHERE ^"))
	wantStuck(t, asked(wide(api.MaxNodes))+" ^+")
	wantStuck(t, "MATCH (ROWS NEAR PATTERN ("+wide(api.MaxNodes)+") WITHIN ^0 DEFINE a AS buy)")
}

// wide is the text of a row of n Vars.
func wide(n int) string {
	l := make([]string, n)
	for i := range l {
		l[i] = "v" + strconv.Itoa(i)
	}
	return strings.Join(l, " ")
}

// tall is a pattern that is n deep: rows and | in turn, the innermost an atom.
func tall(n, k int) api.Pat {
	p := atom("buy", "v"+strconv.Itoa(n))
	if n == 1 {
		return p
	}
	return api.Pat{K: k, L: []api.Pat{p, tall(n-1, api.PSeq+api.POr-k)}}
}

func TestAsManyNodesAsMayBe(t *testing.T) {
	p := seq()
	for i := range api.MaxNodes - 1 {
		p.L = append(p.L, atom("buy", "v"+strconv.Itoa(i)))
	}
	most := wide(api.MaxNodes - 1)
	wantBoth(t, asked(most), of(p))
	wantBoth(t, asked(strings.ReplaceAll(most, " ", " | ")), of(or(p.L...)))
	wantBoth(t, asked("PERMUTE("+strings.ReplaceAll(most, " ", ", ")+")"), of(and(p.L...)))
	for _, n := range []int{api.MaxNodes, api.MaxNodes + 1, 300} {
		wantFault(t, asked(wide(n)), 0, api.ErrLong)
		wantFault(t, asked(strings.ReplaceAll(wide(n), " ", " | ")), 0, api.ErrLong)
		wantFault(t, asked("PERMUTE("+strings.ReplaceAll(wide(n), " ", ", ")+")"), 0, api.ErrLong)
	}
	wantFault(t, asked("a"+strings.Repeat(" a", 3000)), 0, api.ErrLong)
	// One node more by a | or a PERMUTE in it.
	wantFault(t, asked(strings.Replace(most, "v0 v1", "(v0 | v1)", 1)), 0, api.ErrLong)
	wantFault(t, asked(strings.Replace(most, "v0 v1", "PERMUTE(v0, v1)", 1)), 0, api.ErrLong)
	wantQuery(t, asked(strings.Replace(most, "v0 v1", "(v0 (v1))", 1)), of(p))
}

func TestAsDeepAsMayBe(t *testing.T) {
	for _, k := range []int{api.PSeq, api.POr} {
		for n := 1; n <= api.MaxDeep; n++ {
			wantBoth(t, whole(of(tall(n, k))), of(tall(n, k)))
		}
		wantFault(t, whole(of(tall(api.MaxDeep+1, k))), 0, api.ErrLong)
		wantFault(t, whole(of(tall(20, k))), 0, api.ErrLong)
	}
}

// outer is how many ( are open in a pattern ahead of its own: those of MATCH and of PATTERN.
const outer = 2

// nested has n ( ahead of s, and their ) behind it.
func nested(s string, n int) string { return strings.Repeat("(", n) + s + strings.Repeat(")", n) }

func TestAsManyOpenAsMayBe(t *testing.T) {
	in := "MATCH (ROWS NEAR PATTERN ("
	most := api.MaxNodes - outer
	for n := range most + 1 {
		wantQuery(t, asked(nested("a", n)), of(a))
		wantQuery(t, asked(nested("a b", n)+" | c"), of(or(seq(a, b), c)))
		wantQuery(t, strings.Replace(asked(nested("a", n)), "(((", "( (\n(", -1), of(a))
	}
	wantQuery(t, asked(nested("PERMUTE(a, b)", most-1)), of(and(a, b)))
	s := asked(nested("PERMUTE(a, b)", most))
	wantFault(t, s, strings.Index(s, "(a"), api.ErrLong)
	wantFault(t, s[:strings.Index(s, "(a")+1], strings.Index(s, "(a"), api.ErrLong)
	wantFault(t, s[:strings.Index(s, "(a")]+")", strings.Index(s, "(a"), api.ErrForm)
	for _, n := range []int{1, 2, 3, 100, 1000} {
		s, first := asked(nested("a", most+n)), len(in)+most
		wantFault(t, s, first, api.ErrLong)
		wantFault(t, s[:first+1], first, api.ErrLong)
		// What comes behind it is not looked at; what stands ahead of it is.
		wantFault(t, s[:first+1]+" WITHIN +", first, api.ErrLong)
		wantFault(t, s[:first+1]+")))) DEFINE a", first, api.ErrLong)
		wantFault(t, s[:first], first, api.ErrForm)
		wantFault(t, s[:first]+",", first, api.ErrForm)
		wantFault(t, "MATCH ) "+s, len("MATCH "), api.ErrForm)
		wantFault(t, "MATCH (ROWS ANY PATTERN ("+nested("a", most+n), len("MATCH (ROWS "), api.ErrForm)
	}
	// A ( that can't stand there is no one too many.
	s = in + nested("PERMUTE(^(a), b)", most-1)
	wantStuck(t, s)
	s, at := marked(t, in+strings.Repeat("(", most)+"a ^(b")
	wantFault(t, s, at, api.ErrLong)
	wantStuck(t, in+strings.Repeat("(", most)+"a{^(")
	wantStuck(t, in+strings.Repeat("(", most)+"a ^, (")
}

// TestClosedAgain: only those that are open at once are counted.
func TestClosedAgain(t *testing.T) {
	var l []string
	for range 3 * api.MaxNodes {
		l = append(l, "(a)")
	}
	wantFault(t, asked(strings.Join(l, " | ")), 0, api.ErrLong)
	wantQuery(t, asked(strings.Join(l[:api.MaxNodes-1], " | ")), of(or(slices.Repeat([]api.Pat{a}, api.MaxNodes-1)...)))
	most := api.MaxNodes - outer
	wantQuery(t, asked(nested("a", most)+nested("b", most)+" "+nested(nested("c", 1)+" | d", most-1)), of(seq(a, b, or(c, d))))
	wantQuery(t, asked(nested("PERMUTE(a, b)", most-1)+nested("c", most)), of(seq(and(a, b), c)))
	in := "MATCH (ROWS NEAR PATTERN (("
	wantFault(t, in+nested("a", most-1)+nested("b", most), len(in)+len(nested("a", most-1))+most-1, api.ErrLong)
	// Those of conditions and items are none of the pattern's.
	s := "MATCH (MEASURES COUNT(a) AS n, SUM(a.x) AS m " + strings.TrimPrefix(asked(nested("a", most)), "MATCH (")
	wantQuery(t, strings.TrimSuffix(s, ")")+" WHERE "+nested("a.x", 100)+")", api.Query{
		P: a, Mode: api.MNear, Where: conditions("a.x"), Items: []api.Item{item("n", api.ICount, "a", ""), item("m", api.ISum, "a", "x")},
	})
}

// grammar is the chapter's, by what may stand for each of its words; the empty row is nothing. Which Vars are defined, it does not know.
func grammar() map[string][]string {
	return map[string][]string{
		"query":       {"MATCH ( partition measures ROWS mode PATTERN ( pattern ) within DEFINE definition definitions where ) END"},
		"partition":   {"PARTITION BY NAME", ""},
		"measures":    {"MEASURES item items", ""},
		"items":       {", item items", ""},
		"item":        {"told ( NAME . NAME ) AS NAME", "COUNT ( NAME ) AS NAME"},
		"told":        {"FIRST", "LAST", "SUM"},
		"mode":        {"NEAR", "STRICT"},
		"pattern":     {"row rows"},
		"rows":        {"| row rows", ""},
		"row":         {"part parts"},
		"parts":       {"part parts", ""},
		"part":        {"VAR times", "PERMUTE ( VAR , VAR vars )", "( pattern )"},
		"vars":        {", VAR vars", ""},
		"times":       {"+", "{ MANY many", ""},
		"many":        {"}", ", hi }"},
		"hi":          {"MANY", ""},
		"within":      {"WITHIN TIME", ""},
		"definition":  {"DEFINED AS NAME"},
		"definitions": {", definition definitions", "ALL"},
		"where":       {"WHERE CONDITION", ""},
	}
}

// stands tells whether a token is what a word of the grammar that stands for no others asks. The end of all definitions is no token: it stands ahead of any.
func stands(t api.Token, s string) bool {
	n, err := strconv.ParseInt(t.S, 10, 64)
	number := t.K == api.TInt && err == nil && n >= 1
	switch s {
	case "END":
		return t.K == api.TEnd
	case "NAME", "VAR", "DEFINED":
		return t.K == api.TName
	case "ALL":
		return true
	case "MANY":
		return number && n <= api.MaxMany
	case "TIME":
		return number && n <= api.MaxWithin
	}
	return (t.K == api.TWord || t.K == api.TSign) && t.S == s
}

// begins tells whether a row of the grammar may begin with a token.
func begins(g map[string][]string, t api.Token, s string) bool {
	first, _, _ := strings.Cut(s, " ")
	if l, ok := g[first]; ok {
		return slices.ContainsFunc(l, func(s string) bool { return begins(g, t, s) })
	}
	return stands(t, first)
}

// seen are the Vars of a pattern, and how often each is defined.
type seen map[string]int

// takes tells whether a token can stand for that word of the grammar, as it is also asked what is defined.
func (vars seen) takes(t api.Token, x string) bool {
	if !stands(t, x) {
		return false
	}
	switch x {
	case "VAR":
		vars[t.S] = 0
	case "DEFINED":
		n, ok := vars[t.S]
		vars[t.S]++
		return ok && n == 0
	case "ALL":
		for _, n := range vars {
			if n == 0 {
				return false
			}
		}
	}
	return true
}

// walk goes through tokens with a row of what must come, and answers the place and the error of what can't.
func walk(s string, l []api.Token) (int, api.Errno) {
	g := grammar()
	row := []string{"query"}
	vars := seen{}
	open := 0
	for len(row) > 0 {
		t, x := l[0], row[0]
		row = row[1:]
		if x == "CONDITION" {
			r, _, _ := lex.New(s[t.At:])
			_, at, e := cond.Parse(r)
			if e != api.OK {
				return t.At + at, e
			}
			l = l[r.Mark():]
			continue
		}
		if rows, ok := g[x]; ok {
			i := slices.IndexFunc(rows, func(s string) bool { return begins(g, t, s) })
			if i < 0 && rows[len(rows)-1] != "" {
				return t.At, api.ErrForm
			}
			if i >= 0 {
				row = append(strings.Fields(rows[i]), row...)
			}
			continue
		}
		if !vars.takes(t, x) {
			return t.At, api.ErrForm
		}
		switch x {
		case "ALL":
			continue
		case "(":
			if open++; open > api.MaxNodes {
				return t.At, api.ErrLong
			}
		case ")":
			open--
		}
		l = l[1:]
	}
	return 0, api.OK
}

// isSign: a text may be quoted that is just a sign.
func isSign(t api.Token, s string) bool { return t.K == api.TSign && t.S == s }

// cut cuts tokens ahead of those that are told and stand in no ( ) and no { }, but not ahead of the first one.
func cut(l []api.Token, told func(api.Token) bool) [][]api.Token {
	var rows [][]api.Token
	from, deep := 0, 0
	for i, t := range l {
		if i > from && deep == 0 && told(t) {
			rows = append(rows, l[from:i])
			from = i
		}
		switch {
		case isSign(t, "("), isSign(t, "{"):
			deep++
		case isSign(t, ")"), isSign(t, "}"):
			deep--
		}
	}
	return append(rows, l[from:])
}

func cutAt(l []api.Token, s string) [][]api.Token {
	rows := cut(l, func(t api.Token) bool { return isSign(t, s) })
	for i := range rows {
		if isSign(rows[i][0], s) {
			rows[i] = rows[i][1:]
		}
	}
	return rows
}

// cutParts cuts ahead of what begins a part: a Var, PERMUTE, or a ( that stands behind none of it.
func cutParts(l []api.Token) [][]api.Token {
	behind := api.Token{}
	return cut(l, func(t api.Token) bool {
		i := slices.Index(l, t)
		behind = l[i-1]
		return t.K == api.TName || t.K == api.TWord || isSign(t, "(") && behind.K != api.TWord
	})
}

// flat has the parts of all parts that are of that kind, whatever stood around them.
func flat(k int, l []api.Pat) api.Pat {
	if len(l) == 1 {
		return l[0]
	}
	p := api.Pat{K: k}
	for _, x := range l {
		if x.K == k {
			p.L = append(p.L, x.L...)
		} else {
			p.L = append(p.L, x)
		}
	}
	return p
}

func cutEach(k int, rows [][]api.Token, types map[string]string) api.Pat {
	var l []api.Pat
	for _, row := range rows {
		l = append(l, cutPattern(row, types))
	}
	return flat(k, l)
}

func number(t api.Token) int {
	n, _ := strconv.Atoi(t.S)
	return n
}

// cutPattern takes tokens that walk has gone through.
func cutPattern(l []api.Token, types map[string]string) api.Pat {
	if rows := cutAt(l, "|"); len(rows) > 1 {
		return cutEach(api.POr, rows, types)
	}
	if parts := cutParts(l); len(parts) > 1 {
		return cutEach(api.PSeq, parts, types)
	}
	n, v, t := len(l), l[0].S, types[l[0].S]
	switch {
	case isSign(l[0], "("):
		return cutPattern(l[1:n-1], types)
	case v == "PERMUTE":
		return cutEach(api.PAnd, cutAt(l[2:n-1], ","), types)
	case n == 1:
		return atom(t, v)
	case n == 2:
		return many(t, v, 1, 0)
	case n == 4:
		return many(t, v, number(l[2]), number(l[2]))
	case n == 5:
		return many(t, v, number(l[2]), 0)
	}
	return many(t, v, number(l[2]), number(l[4]))
}

// modelClauses has the tokens behind each clause's word.
func modelClauses(l []api.Token) map[string][]api.Token {
	m := map[string][]api.Token{}
	word := ""
	for _, t := range l {
		if t.K == api.TWord && slices.Contains([]string{"PARTITION", "MEASURES", "ROWS", "PATTERN", "WITHIN", "DEFINE", "WHERE"}, t.S) {
			word = t.S
			continue
		}
		m[word] = append(m[word], t)
	}
	return m
}

func modelQuery(s string, l []api.Token) api.Query {
	m := modelClauses(l[2 : len(l)-2]) // without MATCH, its ( ), and the end
	types := map[string]string{}
	for _, row := range cutAt(m["DEFINE"], ",") {
		types[row[0].S] = row[2].S
	}
	p := m["PATTERN"]
	q := of(cutPattern(p[1:len(p)-1], types))
	if w := m["WHERE"]; w != nil {
		r, _, _ := lex.New(s[w[0].At:])
		x, _, _ := cond.Parse(r)
		if q.Where = []api.Expr{x}; x.K == api.XAnd {
			q.Where = x.L
		}
	}
	if w := m["PARTITION"]; w != nil {
		q.Key = w[1].S
	}
	if m["ROWS"][0].S == "STRICT" {
		q.Mode = api.MStrict
	}
	if w := m["WITHIN"]; w != nil {
		q.Within, _ = strconv.ParseInt(w[0].S, 10, 64)
	}
	if w := m["MEASURES"]; w != nil {
		for _, row := range cutAt(w, ",") {
			n := len(row)
			x := item(row[n-1].S, map[string]int{"FIRST": api.IFirst, "LAST": api.ILast, "COUNT": api.ICount, "SUM": api.ISum}[row[0].S], row[2].S, "")
			if n == 8 {
				x.Field = row[4].S
			}
			q.Items = append(q.Items, x)
		}
	}
	return q
}

// model is Parse by other means: a walk through the grammar, then cuts between parts.
func model(s string) (api.Query, int, api.Errno) {
	l, at, e := lex.All(s)
	if e != api.OK {
		return api.Query{}, at, e
	}
	if at, e := walk(s, l); e != api.OK {
		return api.Query{}, at, e
	}
	q := modelQuery(s, l)
	switch e := query.Check(q); {
	case e == api.ErrLong:
		return api.Query{}, 0, api.ErrLong
	case e != api.OK, pat.Made(q.P) != api.OK:
		return api.Query{}, 0, api.ErrForm
	}
	return q, len(s), api.OK
}

func wantAsModel(t *testing.T, s string) (int, api.Errno) {
	t.Helper()
	q, at, e := model(s)
	x, n, got := mr.Parse(s)
	if !query.Same(x, q) || n != at || got != e {
		t.Errorf("Parse(%q): %s, %d, %d; want %s, %d, %d", s, said(x), n, got, said(q), at, e)
	}
	if e == api.OK {
		wantSaidAgain(t, q)
	}
	return at, e
}

// wantSaidAgain: P21.3, of a query that was parsed.
func wantSaidAgain(t *testing.T, q api.Query) {
	t.Helper()
	s, e := mr.Print(q)
	if s != whole(q) || e != api.OK || !mr.Says(q) {
		t.Errorf("Print(%s): %q, %d; want %q, 0", said(q), s, e, whole(q))
	}
	if len(s) <= api.MaxSource {
		wantQuery(t, s, q)
	}
}

// eachRow tells all rows of up to n words behind s with which it goes on, and those that are one word longer. A # in a word is a number that no other one has.
func eachRow(s string, words []string, n int, goesOn func(string) bool) {
	if !goesOn(s) || n == 0 {
		return
	}
	for _, w := range words {
		eachRow(s+" "+strings.ReplaceAll(w, "#", strconv.Itoa(n)), words, n-1, goesOn)
	}
}

// open: a text goes on, if nothing ahead of its end was refused.
func open(t *testing.T, n *int, s string) bool {
	*n++
	at, e := wantAsModel(t, s)
	return e == api.OK || at == len(s) || at == 0
}

// TestEachShortPattern: all rows of words that go on, and each of them as a whole pattern.
func TestEachShortPattern(t *testing.T) {
	n, whole := 0, 0
	front := "MATCH ( ROWS NEAR PATTERN ("
	eachRow(front, []string{"v#", "a", "PERMUTE", "(", ")", "|", "+", "{", "}", ",", "2"}, 7, func(s string) bool {
		if !open(t, &n, s) {
			return false
		}
		if p := strings.TrimPrefix(s, front); strings.Count(p, "(") == strings.Count(p, ")") {
			_, e := wantAsModel(t, s+" ) DEFINE "+defined(p)+")")
			if e == api.OK {
				whole++
			}
		}
		return true
	})
	if n < 10000 || whole < 1000 {
		t.Errorf("only %d, and %d whole ones", n, whole)
	}
}

func TestEachShortRowOfClauses(t *testing.T) {
	n := 0
	goesOn := func(s string) bool {
		wantAsModel(t, s+" )")
		return open(t, &n, s)
	}
	eachRow("MATCH (", []string{"PARTITION", "BY", "MEASURES", "COUNT", "SUM", "AS", "ROWS", "ANY", "STRICT", "PATTERN", "WITHIN", "n#", "(", ")", ".", ",", "7"}, 12, goesOn)
	eachRow("MATCH ( ROWS NEAR PATTERN ( a | b )", []string{"PATTERN", "WITHIN", "DEFINE", "AS", "WHERE", "TRUE", "OR", "a", "b", "c", "(", ")", ",", "7", "0"}, 14, goesOn)
	if n < 10000 {
		t.Errorf("only %d", n)
	}
}

// TestEachOtherToken: each token of a text in place of each other one, beside it, and gone.
func TestEachOtherToken(t *testing.T) {
	text := strings.Fields("MATCH ( PARTITION BY k MEASURES COUNT ( a ) AS n , FIRST ( a . x ) AS m ROWS NEAR PATTERN ( a ( b { 2 , 3 } | PERMUTE ( c , d ) ) e + ) WITHIN 5 DEFINE a AS buy , b AS sell , c AS buy , d AS tick , e AS buy WHERE a.x < 1 AND ( b.x OR TRUE ) )")
	words := append(slices.Clone(text), "0", "1001", "2000000000000", "NOT", "-", "'p'", "ANY", "[", "STRICT", "LAST", "X")
	slices.Sort(words)
	words = slices.Compact(words)
	for i := range text {
		wantAsModel(t, strings.Join(text[:i], " "))
		wantAsModel(t, strings.Join(slices.Delete(slices.Clone(text), i, i+1), " "))
		for _, w := range words {
			l := slices.Clone(text)
			l[i] = w
			wantAsModel(t, strings.Join(l, " "))
			wantAsModel(t, strings.Join(slices.Insert(slices.Clone(text), i, w), " "))
		}
	}
}

// written is the text of a pattern, as P21.2 has it.
func written(p api.Pat) string {
	var l []string
	for _, x := range p.L {
		s := written(x)
		if p.K == api.PSeq && x.K == api.POr {
			s = "(" + s + ")"
		}
		l = append(l, s)
	}
	switch {
	case p.K == api.PSeq:
		return strings.Join(l, " ")
	case p.K == api.POr:
		return strings.Join(l, " | ")
	case p.K == api.PAnd:
		return fmt.Sprintf("PERMUTE(%s)", strings.Join(l, ", "))
	case p.K == api.PMany && p.Lo == 1 && p.Hi == 0:
		return p.Var + "+"
	case p.K == api.PMany && p.Hi == 0:
		return fmt.Sprintf("%s{%d,}", p.Var, p.Lo)
	case p.K == api.PMany && p.Hi == p.Lo:
		return fmt.Sprintf("%s{%d}", p.Var, p.Lo)
	case p.K == api.PMany:
		return fmt.Sprintf("%s{%d,%d}", p.Var, p.Lo, p.Hi)
	default:
		return p.Var
	}
}

// whole is the text of a query, as P21.2 has it.
func whole(q api.Query) string {
	s := "MATCH ("
	if q.Key != "" {
		s += "PARTITION BY " + q.Key + " "
	}
	for i, x := range q.Items {
		s += []string{"MEASURES ", ", "}[min(i, 1)]
		if x.K == api.ICount {
			s += fmt.Sprintf("COUNT(%s) AS %s", x.Var, x.Name)
		} else {
			s += fmt.Sprintf("%s(%s.%s) AS %s", []string{"", "FIRST", "LAST", "", "SUM"}[x.K], x.Var, x.Field, x.Name)
		}
	}
	if len(q.Items) > 0 {
		s += " "
	}
	s += []string{"?", "ROWS NEAR ", "ROWS STRICT "}[q.Mode]
	s += "PATTERN (" + written(q.P) + ") "
	if q.Within > 0 {
		s += fmt.Sprintf("WITHIN %d ", q.Within)
	}
	s += "DEFINE " + strings.Join(definitions(q.P, nil), ", ")
	if len(q.Where) > 0 {
		row, _ := cond.Row(q.Where)
		s += " WHERE " + row
	}
	return s + ")"
}

// definitions are those of the Vars of p that are not among l, behind them.
func definitions(p api.Pat, l []string) []string {
	if s := p.Var + " AS " + p.Type; p.Var != "" && !slices.Contains(l, s) {
		l = append(l, s)
	}
	for _, x := range p.L {
		l = definitions(x, l)
	}
	return l
}

func pick[T any](by *rand.Rand, l []T) T { return l[by.Intn(len(l))] }

// grown is a pattern of about n nodes that is well made, but for its depth and size, as names has no Var twice. It has no PNot, and in a PAnd nothing but PAtoms.
func grown(by *rand.Rand, n, but int, names *int) api.Pat {
	*names++
	t, v := pick(by, []string{"buy", "sell", "t_1"}), "v"+strconv.Itoa(*names)
	if n < 3 {
		if by.Intn(3) > 0 {
			return atom(t, v)
		}
		lo := 1 + by.Intn(3)*by.Intn(api.MaxMany/2)
		hi := []int{0, lo + 1, api.MaxMany, max(lo, 2)}[by.Intn(4)]
		return many(t, v, lo, hi)
	}
	p := api.Pat{K: but}
	for p.K == but {
		p.K = pick(by, []int{api.PSeq, api.PSeq, api.POr, api.POr, api.PAnd})
	}
	parts := 2 + by.Intn(min(n-2, 4))
	for range parts {
		x := grown(by, (n-1)/parts, p.K, names)
		if p.K == api.PAnd {
			*names++
			x = atom(t, "w"+strconv.Itoa(*names))
		}
		p.L = append(p.L, x)
	}
	if p.K == api.POr && by.Intn(3) == 0 { // the same Var again
		vars, types, _ := pat.Vars(p.L[0])
		p.L = append(p.L, atom(types[0], vars[0]))
	}
	return p
}

func someItem(by *rand.Rand, i int) api.Item {
	x := item("i"+strconv.Itoa(i), api.IFirst+by.Intn(4), pick(by, []string{"v1", "v2", "zz"}), "")
	if x.K != api.ICount {
		x.Field = pick(by, []string{"x", "y_2"})
	}
	return x
}

// someQuery has conditions of texts here, and what this dialect says.
func someQuery(by *rand.Rand) api.Query {
	names := 0
	q := of(grown(by, 1+by.Intn(40), 0, &names))
	for range by.Intn(4) {
		q.Where = append(q.Where, condition(pick(by, []string{"v1.x = 1", "v1.x = 1 OR NOT v2.x < 3", "NOT (v1.x AND v2.x)", "-v1.x + 3 * 2 > -5", "v1.k = 'o\\'p'", "TRUE", "NULL = v1.x OR FALSE"})))
	}
	q.Key = pick(by, []string{"", "k", "sym_1"})
	q.Mode = api.MNear + by.Intn(2)
	q.Within = pick(by, []int64{0, 1, 10, 77777, api.MaxWithin})
	for i := range by.Intn(5) {
		q.Items = append(q.Items, someItem(by, i))
	}
	return q
}

func TestPrintAtRandom(t *testing.T) {
	by := rand.New(rand.NewSource(2101))
	for range 5000 {
		q := someQuery(by)
		if query.Check(q) != api.OK || pat.Made(q.P) != api.OK {
			if pat.Deep(q.P) <= api.MaxDeep && pat.Size(q.P) <= api.MaxNodes {
				t.Fatalf("not right: %s", said(q))
			}
			continue
		}
		was := copied(q)
		wantBoth(t, whole(q), q)
		if !query.Same(q, was) {
			t.Errorf("Print has changed %s", said(was))
		}
	}
}

// TestParseAtRandom: texts that are nearly right.
func TestParseAtRandom(t *testing.T) {
	by := rand.New(rand.NewSource(2102))
	others := []string{"(", ")", ",", "|", "+", "{", "}", ".", "v1", "2", "0", "PERMUTE", "WHERE", "ROWS", "NEAR", "ANY", "BY", "MEASURES", "DEFINE", "WITHIN", "PATTERN", "AS", "COUNT", "AND", "NOT", "-", "'x'"}
	for range 20000 {
		l := tokens(whole(someQuery(by)))
		for range by.Intn(3) {
			i := by.Intn(len(l))
			switch by.Intn(4) {
			case 0:
				l = slices.Delete(l, i, min(i+1, len(l)-1))
			case 1:
				l = slices.Insert(l, i, pick(by, others))
			case 2:
				l[i] = pick(by, others)
			default:
				j := by.Intn(len(l))
				l[i], l[j] = l[j], l[i]
			}
		}
		wantAsModel(t, blanked(by, l))
	}
}

// tokens are those of a text, as they stand in it.
func tokens(s string) []string {
	l, _, _ := lex.All(s)
	var words []string
	for i, x := range l[:len(l)-1] {
		words = append(words, strings.TrimRight(s[x.At:l[i+1].At], " \t\n"))
	}
	return words
}

// blanked sets tokens behind each other, with blanks where there must be, and where there may.
func blanked(by *rand.Rand, l []string) string {
	var b strings.Builder
	for i, s := range l {
		if i > 0 && (needsBlank(l[i-1], s) || by.Intn(3) == 0) {
			b.WriteString(pick(by, []string{" ", "  ", "\n", "\t", " \n "}))
		}
		b.WriteString(s)
	}
	return b.String() + pick(by, []string{"", " ", "\n"})
}

// needsBlank: would the two be read as others, if nothing stood between?
func needsBlank(a, b string) bool {
	l, _, e := lex.All(a + b)
	return e != api.OK || len(l) != 3 || l[1].At != len(a)
}

// loose is a text of p with needless ( ), and parts of rows and | in others of their kind.
func loose(by *rand.Rand, p api.Pat) string {
	s := written(p)
	switch p.K {
	case api.PSeq:
		s = looseParts(by, p, " ")
	case api.POr:
		s = looseParts(by, p, " | ")
	}
	for by.Intn(4) == 0 {
		s = "(" + s + ")"
	}
	return s
}

// looseParts has some parts that stand beside each other in another one of their kind.
func looseParts(by *rand.Rand, p api.Pat, between string) string {
	var l []string
	for i := 0; i < len(p.L); {
		n := 1 + by.Intn(len(p.L)-i)
		if n == len(p.L) || by.Intn(2) == 0 {
			s := loose(by, p.L[i])
			if p.K == api.PSeq && p.L[i].K == api.POr {
				s = "(" + s + ")"
			}
			l = append(l, s)
			i++
			continue
		}
		l = append(l, "("+looseParts(by, api.Pat{K: p.K, L: p.L[i : i+n]}, between)+")")
		i += n
	}
	return strings.Join(l, between)
}

// TestPrintOfParsed: other blanks, needless ( ), and another order in DEFINE.
func TestPrintOfParsed(t *testing.T) {
	by := rand.New(rand.NewSource(2103))
	for range 5000 {
		q := someQuery(by)
		if query.Check(q) != api.OK {
			continue
		}
		s := strings.Replace(whole(q), "PATTERN ("+written(q.P)+")", "PATTERN ("+loose(by, q.P)+")", 1)
		l := definitions(q.P, nil)
		in := strings.Join(l, ", ")
		by.Shuffle(len(l), func(i, j int) { l[i], l[j] = l[j], l[i] })
		s = blanked(by, tokens(strings.Replace(s, "DEFINE "+in, "DEFINE "+strings.Join(l, ", "), 1)))
		if len(s) > api.MaxSource {
			continue
		}
		wantQuery(t, s, q)
		wantSaidAgain(t, q)
	}
}

// kinds has one pattern of each kind, with Vars that begin with v.
func kinds(v string) []api.Pat {
	return []api.Pat{
		atom("buy", v),
		many("buy", v, 1, 0),
		many("buy", v, 2, 0),
		many("buy", v, 2, 2),
		many("buy", v, 2, 5),
		seq(atom("buy", v+"_a"), atom("sell", v+"_b")),
		and(atom("buy", v+"_a"), atom("sell", v+"_b")),
		or(atom("buy", v+"_a"), atom("sell", v+"_b")),
		not("buy", v),
	}
}

// TestEachKindWithinEach: what comes of it is what query.Check and pat.Made tell, then ErrSay, if there is a PNot, or a PAnd of what is no PAtom, or the Mode is MAny, then its text.
func TestEachKindWithinEach(t *testing.T) {
	seen := map[api.Errno]int{}
	for _, k := range []int{api.PSeq, api.PAnd, api.POr} {
		for _, x := range kinds("v") {
			for _, y := range kinds("w") {
				p := api.Pat{K: k, L: []api.Pat{x, y}}
				for _, p := range []api.Pat{p, seq(a, p, c), or(a, p), and(p, a), seq(a, or(p, c)), or(a, seq(b, p))} {
					for m := api.MAny; m <= api.MStrict; m++ {
						seen[wantAsNamed(t, api.Query{P: p, Mode: m})]++
					}
				}
			}
		}
	}
	for _, x := range kinds("v") {
		for m := api.MAny - 1; m <= api.MStrict+1; m++ {
			seen[wantAsNamed(t, api.Query{P: x, Mode: m})]++
		}
	}
	for _, e := range []api.Errno{api.OK, api.ErrArg, api.ErrForm, api.ErrSay} {
		if seen[e] < 10 {
			t.Errorf("only %d with %d", seen[e], e)
		}
	}
}

// unsaid asks one node after the other.
func unsaid(p api.Pat) bool {
	for n := 0; ; n++ {
		x, ok := nth(p, n)
		if !ok || x.K == api.PNot {
			return ok
		}
		for _, part := range x.L {
			if x.K == api.PAnd && part.K != api.PAtom {
				return true
			}
		}
	}
}

// nth is the node that stands at that place, each ahead of its parts.
func nth(p api.Pat, n int) (api.Pat, bool) {
	row := []api.Pat{p}
	for i := 0; len(row) > 0; i++ {
		if i == n {
			return row[0], true
		}
		row = append(slices.Clone(row[0].L), row[1:]...)
	}
	return api.Pat{}, false
}

// wantAsNamed asks for the error that P21.2 names first, or the text.
func wantAsNamed(t *testing.T, q api.Query) api.Errno {
	t.Helper()
	e := query.Check(q)
	if e == api.OK {
		e = pat.Made(q.P)
	}
	if e == api.OK && (unsaid(q.P) || q.Mode == api.MAny) {
		e = api.ErrSay
	}
	if e == api.OK {
		wantBoth(t, whole(q), q)
	} else {
		wantUnprinted(t, said(q), q, e)
	}
	return e
}

func TestUnsaid(t *testing.T) {
	f, g := atomOf("f"), atomOf("g")
	for what, p := range map[string]api.Pat{
		"a not between":               seq(a, not("sell", "b"), c),
		"a not in a part":             or(a, seq(b, not("tick", "d"), c)),
		"a not deep inside":           seq(a, or(b, seq(c, or(d, seq(e, not("tick", "f"), g))))),
		"a not at the end":            seq(a, not("sell", "b")),
		"a not behind an and":         seq(and(a, b), not("tick", "d")),
		"nots between and at the end": seq(a, not("sell", "b"), c, not("tick", "d")),
		"a not in a part of an and":   and(seq(a, not("sell", "b"), c), d),
		"an and of a many":            and(manyOf("a", 1, 0), b),
		"an and of a many behind":     and(a, b, manyOf("c", 2, 2)),
		"an and of a seq":             and(seq(a, b), c),
		"an and of a seq behind":      and(a, seq(b, c)),
		"an and of an or":             and(or(a, b), c),
		"an and of an or behind":      and(a, b, or(c, d)),
		"an and of manys":             and(manyOf("a", 1, 0), manyOf("b", 2, 3)),
		"one in a seq":                seq(a, and(b, manyOf("c", 1, 0))),
		"one in an or":                or(a, and(b, seq(c, d))),
		"one deep inside":             or(a, seq(b, or(c, and(d, manyOf("e", 2, 0))))),
		"one behind another and":      seq(and(a, b), and(c, or(d, e))),
		"one ahead of another and":    seq(and(c, or(d, e)), and(a, b)),
		"one with ands below":         and(a, or(b, and(c, d))),
		"one deep below":              seq(and(a, b), or(c, seq(d, or(e, and(f, seq(g, atomOf("h"))))))),
	} {
		wantUnprinted(t, what, of(p), api.ErrSay)
		q := some(127)
		q.P = p
		wantUnprinted(t, what+" with all clauses", q, api.ErrSay)
		if q.Where = nil; pat.Made(p) != api.OK {
			t.Errorf("%s is not well made", what)
		}
	}
	for what, p := range map[string]api.Pat{"an atom": a, "a many": manyOf("a", 1, 0), "an and": and(a, b), "a seq": seq(a, b), "an or": or(a, b)} {
		wantUnprinted(t, what+" in any mode", api.Query{P: p}, api.ErrSay)
		q := some(127)
		q.P, q.Mode = p, api.MAny
		wantUnprinted(t, what+" in any mode with all clauses", q, api.ErrSay)
		wantBoth(t, whole(api.Query{P: p, Mode: api.MStrict}), api.Query{P: p, Mode: api.MStrict})
		wantBoth(t, whole(of(p)), of(p))
	}
	wantBoth(t, whole(of(and(f, g, a))), of(and(f, g, a)))
}

// TestPrintRefuses: the error that is named first.
func TestPrintRefuses(t *testing.T) {
	twice, both := seq(a, a), and(a, manyOf("b", 1, 0))
	long := conditions("NOT " + sum(99))
	for _, w := range []struct {
		what string
		q    api.Query
		e    api.Errno
	}{
		{"the zero query", api.Query{}, api.ErrArg},
		{"a kind that is none", of(api.Pat{K: 7, Type: "buy", Var: "a"}), api.ErrArg},
		{"a kind below 0", of(api.Pat{K: -1, Type: "buy", Var: "a"}), api.ErrArg},
		{"the least kind", of(api.Pat{K: math.MinInt}), api.ErrArg},
		{"the greatest kind", of(api.Pat{K: math.MaxInt}), api.ErrArg},
		{"a kind that is none inside", of(seq(a, b, api.Pat{})), api.ErrArg},
		{"a part too few", of(seq(a)), api.ErrArg},
		{"an and of one", of(and(a)), api.ErrArg},
		{"no parts", of(or()), api.ErrArg},
		{"empty parts", of(api.Pat{K: api.PSeq, L: []api.Pat{}}), api.ErrArg},
		{"a seq in a seq", of(seq(a, seq(b, c))), api.ErrArg},
		{"an or in an or", of(or(or(a, b), c)), api.ErrArg},
		{"an and in an and", of(and(and(a, b), c)), api.ErrArg},
		{"a Type that is no name", of(atom("BUY", "a")), api.ErrArg},
		{"a Type that is empty", of(atom("", "a")), api.ErrArg},
		{"a Var that is no name", of(atom("buy", "")), api.ErrArg},
		{"a Var that is a word", of(atom("buy", "PERMUTE")), api.ErrArg},
		{"a Lo that can't be", of(many("buy", "a", 0, 0)), api.ErrArg},
		{"a Lo of 0 with a Hi", of(many("buy", "a", 0, 2)), api.ErrArg},
		{"a Lo too great", of(many("buy", "a", api.MaxMany+1, 0)), api.ErrArg},
		{"Lo and Hi too great", of(many("buy", "a", api.MaxMany+1, api.MaxMany+1)), api.ErrArg},
		{"a Hi too great", of(many("buy", "a", 1, api.MaxMany+1)), api.ErrArg},
		{"the greatest Hi", of(many("buy", "a", 1, math.MaxInt)), api.ErrArg},
		{"the least Lo", of(many("buy", "a", math.MinInt, 0)), api.ErrArg},
		{"the least Lo and Hi", of(many("buy", "a", math.MinInt, math.MinInt)), api.ErrArg},
		{"one to one", of(many("buy", "a", 1, 1)), api.ErrArg},
		{"a Hi below its Lo", of(many("buy", "a", 3, 2)), api.ErrArg},
		{"a Lo of an atom", of(api.Pat{K: api.PAtom, Type: "buy", Var: "a", Lo: 1}), api.ErrArg},
		{"parts of an atom", of(api.Pat{K: api.PAtom, Type: "buy", Var: "a", L: []api.Pat{b}}), api.ErrArg},
		{"a Var of a seq", of(api.Pat{K: api.PSeq, Var: "s", L: []api.Pat{a, b}}), api.ErrArg},
		{"a Type of an and", of(api.Pat{K: api.PAnd, Type: "buy", L: []api.Pat{a, b}}), api.ErrArg},
		{"a Mode below 0", api.Query{P: a, Mode: -1}, api.ErrArg},
		{"a Mode that is none", api.Query{P: a, Mode: api.MStrict + 1}, api.ErrArg},
		{"the greatest Mode", api.Query{P: a, Mode: math.MaxInt}, api.ErrArg},
		{"a Within below 0", api.Query{P: a, Mode: api.MNear, Within: -1}, api.ErrArg},
		{"a Within too great", api.Query{P: a, Mode: api.MNear, Within: api.MaxWithin + 1}, api.ErrArg},
		{"the least Within", api.Query{P: a, Mode: api.MNear, Within: math.MinInt64}, api.ErrArg},
		{"a Key that is no name", api.Query{P: a, Mode: api.MNear, Key: "K"}, api.ErrArg},
		{"an item of no kind", api.Query{P: a, Mode: api.MNear, Items: []api.Item{item("n", 0, "a", "x")}}, api.ErrArg},
		{"an item of a kind that is none", api.Query{P: a, Mode: api.MNear, Items: []api.Item{item("n", 5, "a", "x")}}, api.ErrArg},
		{"an item of a kind below 0", api.Query{P: a, Mode: api.MNear, Items: []api.Item{item("n", math.MinInt, "a", "x")}}, api.ErrArg},
		{"an item without a Name", api.Query{P: a, Mode: api.MNear, Items: []api.Item{item("", api.ICount, "a", "")}}, api.ErrArg},
		{"a count of a Field", api.Query{P: a, Mode: api.MNear, Items: []api.Item{item("n", api.ICount, "a", "x")}}, api.ErrArg},
		{"a sum of no Field", api.Query{P: a, Mode: api.MNear, Items: []api.Item{item("n", api.ISum, "a", "")}}, api.ErrArg},
		{"two items of one Name", api.Query{P: a, Mode: api.MNear, Items: []api.Item{item("n", api.ICount, "a", ""), item("n", api.ISum, "a", "x")}}, api.ErrArg},
		{"a condition that can't be", api.Query{P: a, Mode: api.MNear, Where: []api.Expr{{}}}, api.ErrArg},
		{"a condition that is an XAnd", api.Query{P: a, Mode: api.MNear, Where: conditions("a.x AND b.x")}, api.ErrArg},
		{"too many conditions", api.Query{P: a, Mode: api.MNear, Where: make([]api.Expr, api.MaxWhere+1)}, api.ErrLong},
		{"too many items", api.Query{P: a, Mode: api.MNear, Items: make([]api.Item, api.MaxItems+1)}, api.ErrLong},
		{"too long conditions", api.Query{P: a, Mode: api.MNear, Where: long}, api.ErrLong},
		{"too many nodes", of(seq(make([]api.Pat, api.MaxNodes)...)), api.ErrLong},
		{"a pattern too deep", of(tall(api.MaxDeep+1, api.PSeq)), api.ErrLong},
		{"a pattern far too deep", of(tall(50000, api.PSeq)), api.ErrLong},
		{"a Var twice", of(twice), api.ErrForm},
		{"a Var of two Types", of(or(a, atom("sell", "a"))), api.ErrForm},
		{"an and of one Var", of(and(a, a)), api.ErrForm},
		{"a not alone", of(not("buy", "a")), api.ErrForm},
		{"a not first", of(seq(not("buy", "a"), b)), api.ErrForm},
		{"a not in an or", of(or(not("buy", "a"), b)), api.ErrForm},
		{"a not in an and", of(and(not("buy", "a"), b)), api.ErrForm},
		{"a not behind another one", of(seq(a, not("sell", "b"), not("buy", "c"))), api.ErrForm},
		{"a not at the end of a part", of(or(seq(a, not("sell", "b")), c)), api.ErrForm},
		{"an and of no atoms", of(both), api.ErrSay},
		{"any mode", api.Query{P: a}, api.ErrSay},
		{"any mode, and an and of no atoms", api.Query{P: both}, api.ErrSay},
		// Several at once.
		{"a Var twice, and a Mode that is none", api.Query{P: twice, Mode: 3}, api.ErrArg},
		{"a Var twice, and any mode", api.Query{P: twice}, api.ErrForm},
		{"any mode, and a Within below 0", api.Query{P: a, Within: -1}, api.ErrArg},
		{"any mode, and too many items", api.Query{P: a, Items: make([]api.Item, api.MaxItems+1)}, api.ErrLong},
		{"an and of no atoms, and a Mode that is none", api.Query{P: both, Mode: 3}, api.ErrArg},
		{"an and of no atoms, and too long conditions", api.Query{P: both, Mode: api.MNear, Where: long}, api.ErrLong},
		{"an and, and a Var twice", of(and(a, twice)), api.ErrForm},
		{"a not, and a Var twice", of(seq(a, not("sell", "b"), a)), api.ErrForm},
		{"a Var twice, and too many items", api.Query{P: twice, Items: make([]api.Item, api.MaxItems+1)}, api.ErrLong},
		{"a kind that is none, and too many items", api.Query{Items: make([]api.Item, api.MaxItems+1)}, api.ErrArg},
	} {
		wantUnprinted(t, w.what, w.q, w.e)
		if got := wantAsNamed(t, w.q); got != w.e {
			t.Errorf("%s: %d by query and pat; want %d", w.what, got, w.e)
		}
	}
}

// TestNilAndEmpty: lists that are nil or empty are the same.
func TestNilAndEmpty(t *testing.T) {
	empty := api.Query{P: api.Pat{K: api.PAtom, Type: "buy", Var: "a", L: []api.Pat{}}, Mode: api.MNear, Where: []api.Expr{}, Items: []api.Item{}}
	wantBoth(t, asked("a"), empty)
	wantBoth(t, asked("a"), of(a))
}

// TestOtherNames: names that the pattern has not are said all the same; but of DEFINE.
func TestOtherNames(t *testing.T) {
	wantBoth(t, with("MEASURES COUNT(z) AS z", "", "WHERE z.x = 1"), api.Query{P: a, Mode: api.MNear, Where: conditions("z.x = 1"), Items: []api.Item{item("z", api.ICount, "z", "")}})
	wantStuck(t, "MATCH (MEASURES COUNT(z) AS z ROWS NEAR PATTERN (a) DEFINE a AS buy, ^z AS buy WHERE z.x = 1)")
}

// TestLongerThanASource: Print knows no bound, but a text of more than MaxSource bytes is none that is read.
func TestLongerThanASource(t *testing.T) {
	long := "a.x = '" + strings.Repeat(`\x00`, api.MaxText) + "'"
	q := api.Query{P: a, Mode: api.MNear, Where: conditions(slices.Repeat([]string{long}, api.MaxWhere)...)}
	s, e := mr.Print(q)
	if s != whole(q) || e != api.OK || len(s) <= api.MaxSource {
		t.Errorf("Print: %d bytes, %d", len(s), e)
	}
	wantFault(t, s, 0, api.ErrLong)
}

// exprLists and patLists are all lists of an answer.
func exprLists(x *api.Expr) []*[]api.Expr {
	l := []*[]api.Expr{&x.L}
	for i := range x.L {
		l = append(l, exprLists(&x.L[i])...)
	}
	return l
}

func patLists(p *api.Pat) []*[]api.Pat {
	l := []*[]api.Pat{&p.L}
	for i := range p.L {
		l = append(l, patLists(&p.L[i])...)
	}
	return l
}

// TestListsAreApart: what is set into a list of an answer, or behind it, is seen in no other list, nor in a later answer.
func TestListsAreApart(t *testing.T) {
	s := "MATCH (MEASURES COUNT(a) AS n, COUNT(b) AS m ROWS NEAR PATTERN (((a | b) (c | (d | e))) ((f g) | PERMUTE(h, i) (j k)) (l (m n))) DEFINE " + defined("a b c d e f g h i j k l m n") + " WHERE (a.x = 1 AND b.x + 1 = 2) AND NOT a.x = 3 AND (a.x OR (b.x OR a.y)))"
	want, _, e := mr.Parse(s)
	if e != api.OK {
		t.Fatal(e)
	}
	want = copied(want)
	n := len(patLists(&want.P))
	for i := range n {
		q, _, _ := mr.Parse(s)
		l := *patLists(&q.P)[i]
		_ = append(l, atom("z", "z"), atom("z", "z"), atom("z", "z"))
		if !query.Same(q, want) {
			t.Errorf("behind list %d of the pattern is another one", i)
		}
		clear(l)
		wantQuery(t, s, want)
	}
	n = len(exprLists(&api.Expr{L: want.Where}))
	for i := range n {
		q, _, _ := mr.Parse(s)
		l := *exprLists(&api.Expr{L: q.Where})[i]
		_ = append(l, api.Expr{K: 99}, api.Expr{K: 99}, api.Expr{K: 99})
		if !query.Same(q, want) {
			t.Errorf("behind list %d of the conditions is another one", i)
		}
		clear(l)
		wantQuery(t, s, want)
	}
	q, _, _ := mr.Parse(s)
	clear(q.Items)
	wantQuery(t, s, want)
}

// TestListsStayAsTheyWere: neither Says nor Print changes what it is handed, also where it refuses it.
func TestListsStayAsTheyWere(t *testing.T) {
	for _, p := range []api.Pat{seq(a, or(b, c), manyOf("d", 1, 0)), and(c, b, a), seq(a, or(b, c), not("tick", "d")), and(a, or(b, c)), seq(a, a), seq(a, seq(b, c))} {
		for m := api.MAny; m <= api.MStrict; m++ {
			q := some(127)
			q.P, q.Mode = p, m
			q = copied(q)
			was := copied(q)
			mr.Says(q)
			mr.Print(q)
			if !query.Same(q, was) {
				t.Errorf("%s has become %s", said(was), said(q))
			}
		}
	}
	// Room behind lists stays as it was.
	room := append(make([]api.Item, 0, 8), full.Items...)
	exprs := append(make([]api.Expr, 0, 8), full.Where...)
	pats := append(make([]api.Pat, 0, 8), a, b)
	mr.Print(api.Query{P: seq(pats...), Mode: api.MNear, Where: exprs, Items: room})
	if room[:3][2] != (api.Item{}) || !expr.Same(exprs[:3][2], api.Expr{}) || !pat.Same(pats[:3][2], api.Pat{}) {
		t.Errorf("behind the lists: %v, %v, %v", room[:8], exprs[:8], pats[:8])
	}
}

func FuzzParse(f *testing.F) {
	for _, s := range []string{
		"MATCH (ROWS NEAR PATTERN (a b+ | c) DEFINE a AS buy, b AS sell, c AS buy)",
		"MATCH (PARTITION BY k MEASURES SUM(a.x) AS n ROWS STRICT PATTERN (PERMUTE(a, b) (c{2} | d{3,}) e{2,4}) WITHIN 9 DEFINE a AS buy, b AS sell, c AS buy, d AS tick, e AS buy WHERE a.x > 0)",
		"MATCH (ROWS NEAR PATTERN (((a))) DEFINE a AS buy)",
	} {
		f.Add(s)
	}
	f.Fuzz(func(t *testing.T, s string) { wantAsModel(t, s) })
}
