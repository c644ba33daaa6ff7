package able_test

import (
	"fmt"
	"math"
	"math/rand"
	"slices"
	"strconv"
	"strings"
	"testing"

	"haruspex/able"
	"haruspex/api"
	"haruspex/epl"
	"haruspex/mr"
	"haruspex/pat"
	"haruspex/query"
	"haruspex/sase"
)

// Patterns, by their kinds.
func atom(v string) api.Pat { return api.Pat{K: api.PAtom, Var: v, Type: "buy"} }

func not(v string) api.Pat { return api.Pat{K: api.PNot, Var: v, Type: "buy"} }

func many(v string, lo, hi int) api.Pat {
	return api.Pat{K: api.PMany, Var: v, Type: "buy", Lo: lo, Hi: hi}
}

func row(k int, l ...api.Pat) api.Pat { return api.Pat{K: k, L: l} }

func seq(l ...api.Pat) api.Pat { return row(api.PSeq, l...) }

func and(l ...api.Pat) api.Pat { return row(api.PAnd, l...) }

func or(l ...api.Pat) api.Pat { return row(api.POr, l...) }

var (
	a, b, c, d, e, f = atom("a"), atom("b"), atom("c"), atom("d"), atom("e"), atom("f")
	rows             = []int{api.PSeq, api.PAnd, api.POr}
	most             = strings.Repeat("n", api.MaxName)
)

func item(name string, k int, v, f string) api.Item {
	return api.Item{Name: name, K: k, Var: v, Field: f}
}

func field(v string) api.Expr { return api.Expr{K: api.XField, Var: v, Field: "x"} }

// sum has n nodes, if that is odd.
func sum(n int) api.Expr {
	x := field("a")
	for range n / 2 {
		x = api.Expr{K: api.XAdd, L: []api.Expr{x, field("b")}}
	}
	return x
}

// of is a query of p alone.
func of(p api.Pat) api.Query { return api.Query{P: p} }

func copiedPat(p api.Pat) api.Pat {
	p.L = slices.Clone(p.L)
	for i := range p.L {
		p.L[i] = copiedPat(p.L[i])
	}
	return p
}

func copiedExpr(x api.Expr) api.Expr {
	x.L = slices.Clone(x.L)
	for i := range x.L {
		x.L[i] = copiedExpr(x.L[i])
	}
	return x
}

func copied(q api.Query) api.Query {
	q.P = copiedPat(q.P)
	q.Where = copiedExpr(api.Expr{L: q.Where}).L
	q.Items = slices.Clone(q.Items)
	return q
}

func said(x any) string { return fmt.Sprintf("%.500s", fmt.Sprint(x)) }

// Models of the chapter's words, by other means: all is told in texts.

var dialects = []int{api.DSase, api.DEpl, api.DMr}

// lacks has the chapter's words.
var lacks = map[int]string{
	api.DSase: " and ",
	api.DEpl:  " many key near strict items ",
	api.DMr:   " not tail any deep ",
}

var words = strings.Fields("seq and or many exact not tail key any near strict within items deep")

// wordOf is "?" of what is none.
func wordOf(what int) string {
	if what < 1 || what > 14 {
		return "?"
	}
	return words[what-1]
}

func lacking(d int, word string) bool { return strings.Contains(lacks[d], " "+word+" ") }

// told has each note as the places of its way, a blank and its word, and the word alone, if its way is empty.
func told(l []api.Note) []string {
	var s []string
	for _, n := range l {
		var way []string
		for _, i := range n.Way {
			way = append(way, strconv.Itoa(i))
		}
		s = append(s, strings.TrimSpace(strings.Join(way, ".")+" "+wordOf(n.What)))
	}
	return s
}

// noted are the notes of a text like "seq; 1 or; 1.0 many; any".
func noted(s string) []string {
	if s == "" {
		return nil
	}
	return strings.Split(s, "; ")
}

// lackedOf are those that d lacks.
func lackedOf(d int, notes []string) []string {
	var l []string
	for _, n := range notes {
		if lacking(d, n[strings.LastIndex(n, " ")+1:]) {
			l = append(l, n)
		}
	}
	return l
}

// stand is a node and the way down to it.
type stand struct {
	way []int
	p   api.Pat
}

// stands has all nodes in the order in which they stand: a way is ahead of those that go on from it.
func stands(p api.Pat) []stand {
	all := []stand{{nil, p}}
	for i := 0; i < len(all); i++ {
		for j, x := range all[i].p.L {
			all = append(all, stand{append(slices.Clone(all[i].way), j), x})
		}
	}
	slices.SortFunc(all, func(a, b stand) int { return slices.Compare(a.way, b.way) })
	return all
}

// model takes a query that is right and well made. Where a node stands is told by ways alone.
func model(q api.Query) []string {
	var l []api.Note
	kinds := map[string]int{}
	for _, x := range stands(q.P) {
		kinds[fmt.Sprint(x.way)] = x.p.K
		what := []int{0, 0, api.NSeq, api.NAnd, api.NOr, api.NMany, api.NNot}[x.p.K]
		n := len(x.way)
		switch {
		case what == api.NMany && x.p.Lo == x.p.Hi:
			what = api.NExact
		case what == api.NNot && n == 1 && x.way[0] == len(q.P.L)-1:
			what = api.NTail
		}
		if what != 0 {
			l = append(l, api.Note{Way: x.way, What: what})
		}
		if n > 0 && kinds[fmt.Sprint(x.way[:n-1])] == api.PAnd && x.p.K != api.PAtom {
			l = append(l, api.Note{Way: x.way, What: api.NDeep})
		}
	}
	all := told(l)
	for _, c := range []struct {
		has  bool
		word string
	}{{len(q.Key) > 0, "key"}, {q.Mode == 0, "any"}, {q.Mode == 1, "near"}, {q.Mode == 2, "strict"}, {q.Within > 0, "within"}, {len(q.Items) > 0, "items"}} {
		if c.has {
			all = append(all, c.word)
		}
	}
	return all
}

func says(d int, q api.Query) bool {
	switch d {
	case api.DSase:
		return sase.Says(q)
	case api.DEpl:
		return epl.Says(q)
	}
	return mr.Says(q)
}

// kindOf is the kind of the part to which a note leads, 0 of a note that leads to the whole.
var kindOf = map[int]int{
	api.NSeq: api.PSeq, api.NAnd: api.PAnd, api.NOr: api.POr, api.NMany: api.PMany, api.NExact: api.PMany, api.NNot: api.PNot, api.NTail: api.PNot,
}

// wantLeads asks for P22.3 of each note.
func wantLeads(t *testing.T, q api.Query, l []api.Note) {
	t.Helper()
	for _, n := range l {
		x, ok := pat.At(q.P, n.Way)
		if k := kindOf[n.What]; !ok || k != 0 && x.K != k {
			t.Errorf("%s: the way of %v leads to %s, %v", said(q), n, said(x), ok)
		}
		if kindOf[n.What] != 0 {
			continue
		}
		if n.What != api.NDeep {
			if len(n.Way) != 0 {
				t.Errorf("%s: %v is of a clause", said(q), n)
			}
		} else if up, ok := pat.At(q.P, n.Way[:max(len(n.Way)-1, 0)]); !ok || up.K != api.PAnd || x.K == api.PAtom || len(n.Way) == 0 {
			t.Errorf("%s: %v is a part of %s", said(q), n, said(up))
		}
	}
}

// wantNoted asks of Uses, Notes and Best what follows from these notes, and for P22.3.
func wantNoted(t *testing.T, q api.Query, want []string) {
	t.Helper()
	was := copied(q)
	l, got := able.Uses(q)
	if !slices.Equal(told(l), want) || got != api.OK {
		t.Errorf("Uses(%s): %q, %d; want %q, 0", said(q), told(l), got, want)
	}
	wantLeads(t, q, l)
	var best []int
	for _, d := range dialects {
		lacked := lackedOf(d, want)
		l, got := able.Notes(d, q)
		if !slices.Equal(told(l), lacked) || got != api.OK {
			t.Errorf("Notes(%d, %s): %q, %d; want %q, 0", d, said(q), told(l), got, lacked)
		}
		wantLeads(t, q, l)
		if len(lacked) == 0 {
			best = append(best, d)
		}
		if says(d, q) != (len(l) == 0) {
			t.Errorf("Notes(%d, %s): %q; it says that: %v", d, said(q), told(l), says(d, q))
		}
	}
	// The second dialect says no Mode but any, and the third not that.
	if l := able.Best(q); !slices.Equal(l, best) || len(l) == len(dialects) {
		t.Errorf("Best(%s): %v, want %v", said(q), l, best)
	}
	if !query.Same(q, was) {
		t.Errorf("%s has become %s", said(was), said(q))
	}
}

func wantUses(t *testing.T, q api.Query, want string) {
	t.Helper()
	wantNoted(t, q, noted(want))
	if got := model(q); !slices.Equal(got, noted(want)) {
		t.Errorf("the words say of %s %q, not %q", said(q), got, want)
	}
}

// wantOf asks for what p alone uses; Mode any is behind it.
func wantOf(t *testing.T, p api.Pat, want string) {
	t.Helper()
	wantUses(t, of(p), strings.TrimPrefix(want+"; any", "; "))
}

func wantRefused(t *testing.T, what string, q api.Query) {
	t.Helper()
	was := copied(q)
	if query.Check(q) == api.OK && pat.Made(q.P) == api.OK {
		t.Errorf("%s is right and well made", what)
	}
	if l, e := able.Uses(q); len(l) != 0 || e != api.ErrArg {
		t.Errorf("Uses of %s: %v, %d; want none, %d", what, l, e, api.ErrArg)
	}
	for d := api.DSase - 1; d <= api.DMr+1; d++ {
		if l, e := able.Notes(d, q); len(l) != 0 || e != api.ErrArg {
			t.Errorf("Notes(%d) of %s: %v, %d; want none, %d", d, what, l, e, api.ErrArg)
		}
		if d != api.DSase-1 && d != api.DMr+1 && says(d, q) {
			t.Errorf("%d says %s", d, what)
		}
	}
	if l := able.Best(q); len(l) != 0 {
		t.Errorf("Best of %s: %v", what, l)
	}
	if !query.Same(q, was) {
		t.Errorf("%s has become %s", what, said(q))
	}
}

// wantAsModel takes any query, and tells whether it is right and well made.
func wantAsModel(t *testing.T, q api.Query) bool {
	t.Helper()
	if query.Check(q) != api.OK || pat.Made(q.P) != api.OK {
		wantRefused(t, said(q), q)
		return false
	}
	wantNoted(t, q, model(q))
	return true
}

func TestExample(t *testing.T) {
	q := of(and(a, b))
	l, e := able.Notes(api.DSase, q)
	if len(l) != 1 || len(l[0].Way) != 0 || l[0].What != api.NAnd || e != api.OK {
		t.Errorf("Notes: %v, %d", l, e)
	}
	wantUses(t, q, "and; any")
}

// ends has what is beyond each end of the numbers from 1 to n.
func ends(n int) []int {
	return []int{0, -1, -2, -n, math.MinInt, math.MinInt + 1, math.MinInt32, n + 1, n + 2, 2*n + 1, 256, 1 << 32, 1<<32 + 1, math.MaxInt - 1, math.MaxInt}
}

func TestLacks(t *testing.T) {
	for _, d := range dialects {
		for what := api.NSeq; what <= api.NDeep; what++ {
			if got, want := able.Lacks(d, what), lacking(d, words[what-1]); got != want {
				t.Errorf("Lacks(%d, %s): %v", d, words[what-1], got)
			}
		}
		for _, what := range ends(api.NDeep) {
			if able.Lacks(d, what) {
				t.Errorf("Lacks(%d, %d): true", d, what)
			}
		}
	}
	for _, d := range ends(api.DMr) {
		for _, what := range append(ends(api.NDeep), 1, 2, 3, 4, 5, 6, 7, 8, 9, 10, 11, 12, 13, 14) {
			if able.Lacks(d, what) {
				t.Errorf("Lacks(%d, %d): true", d, what)
			}
		}
	}
}

// TestLacksInNumbers: the numbers of package api, as the chapter names them.
func TestLacksInNumbers(t *testing.T) {
	all := map[[2]int]int{
		{api.DSase, api.NAnd}: 1,
		{api.DEpl, api.NMany}: 1, {api.DEpl, api.NKey}: 1, {api.DEpl, api.NNear}: 1, {api.DEpl, api.NStrict}: 1, {api.DEpl, api.NItems}: 1,
		{api.DMr, api.NNot}: 1, {api.DMr, api.NTail}: 1, {api.DMr, api.NAny}: 1, {api.DMr, api.NDeep}: 1,
	}
	for d := -3; d < 8; d++ {
		for what := -3; what < 24; what++ {
			if got := able.Lacks(d, what); got != (all[[2]int{d, what}] == 1) {
				t.Errorf("Lacks(%d, %d): %v", d, what, got)
			}
		}
	}
}

func TestWord(t *testing.T) {
	for what, want := range map[int]string{
		api.NSeq: "seq", api.NAnd: "and", api.NOr: "or", api.NMany: "many", api.NExact: "exact", api.NNot: "not", api.NTail: "tail", api.NKey: "key",
		api.NAny: "any", api.NNear: "near", api.NStrict: "strict", api.NWithin: "within", api.NItems: "items", api.NDeep: "deep",
	} {
		if got := able.Word(what); got != want {
			t.Errorf("Word(%d): %q, want %q", what, got, want)
		}
	}
	for i, want := range words {
		if got := able.Word(i + 1); got != want {
			t.Errorf("Word(%d): %q, want %q", i+1, got, want)
		}
	}
	for _, what := range ends(api.NDeep) {
		if got := able.Word(what); got != "" {
			t.Errorf("Word(%d): %q", what, got)
		}
	}
}

func TestUsesOfOneNode(t *testing.T) {
	wantOf(t, a, "")
	wantOf(t, many("a", 1, 0), "many")
	wantOf(t, many("a", 2, 2), "exact")
	wantOf(t, seq(a, b), "seq")
	wantOf(t, and(a, b), "and")
	wantOf(t, or(a, b), "or")
	wantOf(t, seq(a, b, c), "seq")
	wantOf(t, and(a, b, c), "and")
	wantOf(t, or(a, a, a), "or")
	wantRefused(t, "a not alone", of(not("a")))
}

func TestUsesOfCounts(t *testing.T) {
	for _, w := range []struct {
		lo, hi int
		word   string
	}{
		{1, 0, "many"}, {2, 0, "many"}, {3, 0, "many"}, {api.MaxMany - 1, 0, "many"}, {api.MaxMany, 0, "many"},
		{1, 2, "many"}, {1, 3, "many"}, {2, 3, "many"}, {2, 4, "many"}, {1, api.MaxMany, "many"}, {2, api.MaxMany, "many"}, {api.MaxMany - 1, api.MaxMany, "many"},
		{2, 2, "exact"}, {3, 3, "exact"}, {10, 10, "exact"}, {api.MaxMany - 1, api.MaxMany - 1, "exact"}, {api.MaxMany, api.MaxMany, "exact"},
	} {
		x := many("x", w.lo, w.hi)
		wantOf(t, x, w.word)
		wantOf(t, seq(a, x), "seq; 1 "+w.word)
		wantOf(t, seq(x, a), "seq; 0 "+w.word)
		wantOf(t, or(a, x, b), "or; 1 "+w.word)
		wantOf(t, and(x, a), "and; 0 "+w.word+"; 0 deep")
		wantOf(t, or(a, seq(b, or(c, x))), "or; 1 seq; 1.1 or; 1.1.1 "+w.word)
	}
}

// TestUsesOfEachKindWithinEach: each node ahead of its parts, each with its way.
func TestUsesOfEachKindWithinEach(t *testing.T) {
	m, x := many("m", 1, 0), many("x", 3, 3)
	for _, w := range []struct {
		p    api.Pat
		want string
	}{
		{seq(m, a), "seq; 0 many"},
		{seq(a, x), "seq; 1 exact"},
		{seq(m, x), "seq; 0 many; 1 exact"},
		{seq(and(a, b), c), "seq; 0 and"},
		{seq(c, and(a, b)), "seq; 1 and"},
		{seq(or(a, b), c), "seq; 0 or"},
		{seq(c, or(a, b)), "seq; 1 or"},
		{seq(or(a, b), and(c, d)), "seq; 0 or; 1 and"},
		{seq(a, or(m, x), b), "seq; 1 or; 1.0 many; 1.1 exact"},
		{or(m, a), "or; 0 many"},
		{or(a, x), "or; 1 exact"},
		{or(seq(a, b), c), "or; 0 seq"},
		{or(c, seq(a, b)), "or; 1 seq"},
		{or(and(a, b), c), "or; 0 and"},
		{or(c, and(a, b)), "or; 1 and"},
		{or(and(a, b), seq(c, d)), "or; 0 and; 1 seq"},
		{or(a, seq(m, x), b), "or; 1 seq; 1.0 many; 1.1 exact"},
		{and(m, a), "and; 0 many; 0 deep"},
		{and(a, x), "and; 1 exact; 1 deep"},
		{and(seq(a, b), c), "and; 0 seq; 0 deep"},
		{and(c, seq(a, b)), "and; 1 seq; 1 deep"},
		{and(or(a, b), c), "and; 0 or; 0 deep"},
		{and(c, or(a, b)), "and; 1 or; 1 deep"},
		{and(or(a, b), seq(c, d)), "and; 0 or; 0 deep; 1 seq; 1 deep"},
		{and(a, seq(m, x), b), "and; 1 seq; 1 deep; 1.0 many; 1.1 exact"},
		// Not in the order of the ways' lengths.
		{seq(or(and(a, b), c), and(d, e)), "seq; 0 or; 0.0 and; 1 and"},
		{seq(or(a, and(b, c)), d, or(and(e, m), f)), "seq; 0 or; 0.1 and; 2 or; 2.0 and; 2.0.1 many; 2.0.1 deep"},
		{or(seq(a, or(b, seq(c, d))), m), "or; 0 seq; 0.1 or; 0.1.1 seq; 1 many"},
	} {
		wantOf(t, w.p, w.want)
	}
}

func TestUsesOfNots(t *testing.T) {
	n, o := not("n"), not("o")
	for _, w := range []struct {
		p    api.Pat
		want string
	}{
		{seq(a, n, b), "seq; 1 not"},
		{seq(a, n), "seq; 1 tail"},
		{seq(a, b, n), "seq; 2 tail"},
		{seq(a, n, b, o), "seq; 1 not; 3 tail"},
		{seq(a, n, b, o, c), "seq; 1 not; 3 not"},
		{seq(a, n, b, o, c, not("p")), "seq; 1 not; 3 not; 5 tail"},
		{seq(and(a, b), n), "seq; 0 and; 1 tail"},
		{seq(or(a, b), n, c), "seq; 0 or; 1 not"},
		// Not of the whole, so none is its Tail.
		{or(seq(a, n, b), c), "or; 0 seq; 0.1 not"},
		{or(c, seq(a, n, b)), "or; 1 seq; 1.1 not"},
		{or(seq(a, n, b), seq(c, o, d)), "or; 0 seq; 0.1 not; 1 seq; 1.1 not"},
		{and(c, seq(a, n, b)), "and; 1 seq; 1 deep; 1.1 not"},
		{and(seq(a, n, b), c), "and; 0 seq; 0 deep; 0.1 not"},
		{seq(a, or(b, seq(c, n, d))), "seq; 1 or; 1.1 seq; 1.1.1 not"},
		{seq(a, or(b, seq(c, n, d)), o), "seq; 1 or; 1.1 seq; 1.1.1 not; 2 tail"},
		{seq(a, and(seq(b, n, c), d), o), "seq; 1 and; 1.0 seq; 1.0 deep; 1.0.1 not; 2 tail"},
		{seq(or(a, seq(b, n, c)), o, d), "seq; 0 or; 0.1 seq; 0.1.1 not; 1 not"},
		// One Var in several parts of an or.
		{or(seq(a, n, b), seq(c, n, d)), "or; 0 seq; 0.1 not; 1 seq; 1.1 not"},
		{seq(or(seq(a, n, b), seq(c, n, d)), o), "seq; 0 or; 0.0 seq; 0.0.1 not; 0.1 seq; 0.1.1 not; 1 tail"},
	} {
		wantOf(t, w.p, w.want)
	}
	for what, p := range map[string]api.Pat{
		"at the end of a part of an or":           or(seq(a, n), b),
		"at the end of the last part of an or":    or(a, seq(b, n)),
		"at the end of a part of an and":          and(seq(a, n), b),
		"at the end of a seq deep inside":         seq(a, or(b, seq(c, n))),
		"at the end of a seq deep inside, too":    seq(a, or(b, seq(c, n)), o),
		"first":                                   seq(n, a),
		"first and last":                          seq(n, a, o),
		"behind another one":                      seq(a, n, o, b),
		"behind another one at the end":           seq(a, n, o),
		"in an and":                               and(a, n),
		"in an or":                                or(n, a),
		"alone":                                   n,
		"twice in one seq":                        seq(a, n, b, n),
		"with the Var of an atom":                 seq(a, not("a")),
		"with the Var of an atom in an or's part": or(seq(a, n, b), atom("n")),
	} {
		wantRefused(t, "a not "+what, of(p))
	}
}

func TestUsesOfDeep(t *testing.T) {
	m, x := many("m", 1, 0), many("x", 2, 2)
	for _, w := range []struct {
		p    api.Pat
		want string
	}{
		{and(a, b, c, d), "and"},
		{and(m, x), "and; 0 many; 0 deep; 1 exact; 1 deep"},
		{and(a, m, b, x), "and; 1 many; 1 deep; 3 exact; 3 deep"},
		{and(a, many("m", 2, 3)), "and; 1 many; 1 deep"},
		{and(m, seq(a, b), x, or(c, d), e), "and; 0 many; 0 deep; 1 seq; 1 deep; 2 exact; 2 deep; 3 or; 3 deep"},
		// A part of a part is deep only if that is an and.
		{and(a, seq(b, m)), "and; 1 seq; 1 deep; 1.1 many"},
		{and(a, or(m, seq(b, x))), "and; 1 or; 1 deep; 1.0 many; 1.1 seq; 1.1.1 exact"},
		{and(a, or(b, and(c, d))), "and; 1 or; 1 deep; 1.1 and"},
		{and(a, or(b, and(c, m))), "and; 1 or; 1 deep; 1.1 and; 1.1.1 many; 1.1.1 deep"},
		{and(seq(and(a, m), b), c), "and; 0 seq; 0 deep; 0.0 and; 0.0.1 many; 0.0.1 deep"},
		// The and lies deep.
		{seq(a, and(b, m)), "seq; 1 and; 1.1 many; 1.1 deep"},
		{seq(a, and(b, c)), "seq; 1 and"},
		{or(and(x, a), b), "or; 0 and; 0.0 exact; 0.0 deep"},
		{or(a, seq(b, or(c, and(d, seq(e, f))))), "or; 1 seq; 1.1 or; 1.1.1 and; 1.1.1.1 seq; 1.1.1.1 deep"},
		{or(a, seq(b, or(c, and(d, or(e, f))))), "or; 1 seq; 1.1 or; 1.1.1 and; 1.1.1.1 or; 1.1.1.1 deep"},
		{or(a, seq(b, or(c, and(d, e)))), "or; 1 seq; 1.1 or; 1.1.1 and"},
		{seq(m, and(a, b), x), "seq; 0 many; 1 and; 2 exact"},
		{or(and(a, b), m), "or; 0 and; 1 many"},
	} {
		wantOf(t, w.p, w.want)
	}
}

// some has the clauses that are in set; its least bit is that of the Key.
func some(p api.Pat, mode, set int) (api.Query, string) {
	q, want := api.Query{P: p, Mode: mode}, ""
	if set&1 != 0 {
		q.Key, want = "k", "key; "
	}
	want += []string{"any", "near", "strict"}[mode]
	if set&2 != 0 {
		q.Within = 10
		want += "; within"
	}
	if set&4 != 0 {
		q.Items = []api.Item{item("n", api.ICount, "a", ""), item("m", api.ISum, "a", "x")}
		want += "; items"
	}
	if set&8 != 0 {
		q.Where = []api.Expr{field("a"), sum(3)}
	}
	return q, want
}

// TestUsesOfEachSetOfClauses: Where is told of none.
func TestUsesOfEachSetOfClauses(t *testing.T) {
	for mode := api.MAny; mode <= api.MStrict; mode++ {
		for set := range 16 {
			q, want := some(a, mode, set)
			wantUses(t, q, want)
			q, want = some(seq(a, and(b, many("c", 1, 0)), not("d")), mode, set)
			wantUses(t, q, "seq; 1 and; 1.1 many; 1.1 deep; 2 tail; "+want)
		}
	}
}

func TestUsesOfClauses(t *testing.T) {
	for _, within := range []int64{1, 2, math.MaxInt32, 1 << 32, api.MaxWithin - 1, api.MaxWithin} {
		wantUses(t, api.Query{P: a, Within: within}, "any; within")
	}
	for _, key := range []string{"k", "a", most} {
		wantUses(t, api.Query{P: a, Key: key}, "key; any")
	}
	for k := api.IFirst; k <= api.ISum; k++ {
		x := item("n", k, "a", "x")
		if k == api.ICount {
			x.Field = ""
		}
		wantUses(t, api.Query{P: a, Items: []api.Item{x}}, "any; items")
	}
	var l []api.Item
	for i := range api.MaxItems {
		l = append(l, item("n"+strconv.Itoa(i), api.ICount, "other", ""))
	}
	wantUses(t, api.Query{P: a, Items: l}, "any; items")
	wantUses(t, api.Query{P: a, Where: slices.Repeat([]api.Expr{field("other")}, api.MaxWhere)}, "any")
	wantUses(t, api.Query{P: a, Where: []api.Expr{sum(api.MaxExpr - 1)}}, "any")
}

// wide is a row of k of n nodes in all.
func wide(k, n int) api.Pat {
	p := row(k)
	for i := range n - 1 {
		p.L = append(p.L, atom("v"+strconv.Itoa(i)))
	}
	return p
}

// tall goes n nodes down, by rows of the kinds by turns, to leaf; each row has one atom ahead of the next one down.
func tall(n int, leaf api.Pat, kinds ...int) api.Pat {
	for i := n - 2; i >= 0; i-- {
		leaf = row(kinds[i%len(kinds)], atom("v"+strconv.Itoa(i)), leaf)
	}
	return leaf
}

func TestAsManyNodesAsMayBe(t *testing.T) {
	for i, k := range rows {
		wantOf(t, wide(k, api.MaxNodes), words[i])
		wantRefused(t, "one node too many", of(wide(k, api.MaxNodes+1)))
		wantRefused(t, "far too many nodes", of(wide(k, 50000)))
	}
	last := wide(api.PAnd, api.MaxNodes)
	last.L[api.MaxNodes-2] = many("m", 2, 2)
	wantOf(t, last, "and; 62 exact; 62 deep")
	last = wide(api.PSeq, api.MaxNodes)
	last.L[api.MaxNodes-2] = not("n")
	wantOf(t, last, "seq; 62 tail")
	// All of them have notes, and two but the first.
	all, want := and(), "and"
	for i := range api.MaxNodes - 1 {
		all.L = append(all.L, many("m"+strconv.Itoa(i), 1, 0))
		want += fmt.Sprintf("; %d many; %d deep", i, i)
	}
	wantOf(t, all, want)
}

func TestAsDeepAsMayBe(t *testing.T) {
	way := func(n int) string { return strings.Join(slices.Repeat([]string{"1"}, n), ".") }
	for _, kinds := range [][]int{{api.PSeq, api.PAnd}, {api.PAnd, api.POr}, {api.POr, api.PSeq}, {api.PSeq, api.PAnd, api.POr}} {
		for n := 2; n <= api.MaxDeep; n++ {
			var want []string
			for i := range n - 1 {
				k := kinds[i%len(kinds)]
				want = append(want, strings.TrimSpace(way(i)+" "+words[k-api.PSeq]))
				if i > 0 && kinds[(i-1)%len(kinds)] == api.PAnd {
					want = append(want, way(i)+" deep")
				}
			}
			wantOf(t, tall(n, a, kinds...), strings.Join(want, "; "))
			want = append(want, way(n-1)+" many")
			if kinds[(n-2)%len(kinds)] == api.PAnd {
				want = append(want, way(n-1)+" deep")
			}
			wantOf(t, tall(n, many("m", 1, 0), kinds...), strings.Join(want, "; "))
		}
		wantRefused(t, "one too deep", of(tall(api.MaxDeep+1, a, kinds...)))
		wantRefused(t, "one far too deep", of(tall(60000, a, kinds...)))
	}
}

// wrong has queries that query.Check or pat.Made refuses.
func wrong() map[string]api.Query {
	all := map[string]api.Query{
		"the zero query":                        {},
		"a kind below all":                      of(row(-1, a, b)),
		"the least kind":                        of(api.Pat{K: math.MinInt, Var: "a", Type: "buy"}),
		"a kind above all":                      of(api.Pat{K: api.PNot + 1, Var: "a", Type: "buy"}),
		"the greatest kind":                     of(row(math.MaxInt, a, b)),
		"a kind that is none inside":            of(seq(a, or(b, api.Pat{}))),
		"no parts":                              of(seq()),
		"empty parts":                           of(api.Pat{K: api.PAnd, L: []api.Pat{}}),
		"one part":                              of(and(a)),
		"an and in an and":                      of(and(a, and(b, c))),
		"a seq in a seq":                        of(seq(seq(a, b), c)),
		"an or in an or":                        of(or(a, or(b, c))),
		"an empty Var":                          of(atom("")),
		"a Var that is no name":                 of(seq(a, atom("B"))),
		"a Var that is too long":                of(atom(most + "n")),
		"a Type that is no name":                of(api.Pat{K: api.PAtom, Var: "a", Type: "Buy"}),
		"an empty Type":                         of(api.Pat{K: api.PAtom, Var: "a"}),
		"a Lo of 0":                             of(many("a", 0, 0)),
		"a Lo of 0 with a Hi":                   of(many("a", 0, 2)),
		"a Lo below 0":                          of(many("a", -1, -1)),
		"the least Lo and Hi":                   of(many("a", math.MinInt, math.MinInt)),
		"the greatest Lo and Hi":                of(many("a", math.MaxInt, math.MaxInt)),
		"one to one":                            of(many("a", 1, 1)),
		"a Hi below its Lo":                     of(many("a", 3, 2)),
		"a Hi below 0":                          of(many("a", 1, -1)),
		"a Lo too great":                        of(many("a", api.MaxMany+1, 0)),
		"Lo and Hi too great":                   of(many("a", api.MaxMany+1, api.MaxMany+1)),
		"a Hi too great":                        of(many("a", 1, api.MaxMany+1)),
		"a Lo of an atom":                       of(api.Pat{K: api.PAtom, Var: "a", Type: "buy", Lo: 1}),
		"a Hi of a seq":                         of(api.Pat{K: api.PSeq, Hi: 1, L: []api.Pat{a, b}}),
		"parts of an atom":                      of(api.Pat{K: api.PAtom, Var: "a", Type: "buy", L: []api.Pat{b, c}}),
		"parts of a many":                       of(api.Pat{K: api.PMany, Var: "a", Type: "buy", Lo: 2, Hi: 2, L: []api.Pat{b}}),
		"a Var of an and":                       of(api.Pat{K: api.PAnd, Var: "v", L: []api.Pat{a, b}}),
		"a Mode below all":                      {P: a, Mode: -1},
		"the least Mode":                        {P: a, Mode: math.MinInt},
		"a Mode above all":                      {P: a, Mode: api.MStrict + 1},
		"the greatest Mode":                     {P: a, Mode: math.MaxInt},
		"a Within below 0":                      {P: a, Within: -1},
		"the least Within":                      {P: a, Within: math.MinInt64},
		"a Within too great":                    {P: a, Within: api.MaxWithin + 1},
		"the greatest Within":                   {P: a, Within: math.MaxInt64},
		"a Key that is no name":                 {P: a, Key: "K"},
		"a Key that is too long":                {P: a, Key: most + "n"},
		"an item of no kind":                    {P: a, Items: []api.Item{item("n", 0, "a", "x")}},
		"an item of a kind below all":           {P: a, Items: []api.Item{item("n", math.MinInt, "a", "x")}},
		"an item of a kind above all":           {P: a, Items: []api.Item{item("n", api.ISum+1, "a", "x")}},
		"the zero item":                         {P: a, Items: []api.Item{{}}},
		"an item without a Name":                {P: a, Items: []api.Item{item("", api.ICount, "a", "")}},
		"an item without a Var":                 {P: a, Items: []api.Item{item("n", api.ICount, "", "")}},
		"a count of a Field":                    {P: a, Items: []api.Item{item("n", api.ICount, "a", "x")}},
		"a sum of no Field":                     {P: a, Items: []api.Item{item("n", api.ISum, "a", "")}},
		"two items of one Name":                 {P: a, Items: []api.Item{item("n", api.ICount, "a", ""), item("n", api.IFirst, "a", "x")}},
		"too many items":                        {P: a, Items: make([]api.Item, api.MaxItems+1)},
		"a condition that can't be":             {P: a, Where: []api.Expr{{}}},
		"a condition of a kind above all":       {P: a, Where: []api.Expr{{K: math.MaxInt}}},
		"a condition that is an XAnd":           {P: a, Where: []api.Expr{{K: api.XAnd, L: []api.Expr{field("a"), field("b")}}}},
		"too many conditions":                   {P: a, Where: slices.Repeat([]api.Expr{field("a")}, api.MaxWhere+1)},
		"a condition that is too long":          {P: a, Where: []api.Expr{sum(api.MaxExpr + 1)}},
		"conditions that are too long together": {P: a, Where: []api.Expr{sum(51), sum(49)}},
		"a Var twice":                           of(seq(a, a)),
		"a Var twice in an and":                 of(and(a, many("a", 2, 2))),
		"a Var twice far apart":                 of(seq(a, or(b, and(c, a)))),
		"a Var of two Types":                    of(or(a, api.Pat{K: api.PAtom, Var: "a", Type: "sell"})),
		"a not alone":                           of(not("a")),
		"a not first":                           of(seq(not("a"), b)),
		"a not in an and":                       of(and(a, not("b"))),
		"a not in an or":                        of(or(a, not("b"))),
		"a not at the end of a part":            of(or(seq(a, not("b")), c)),
		"a not behind another one":              of(seq(a, not("b"), not("c"))),
	}
	p := and(a, seq(b, not("c"), many("d", 1, 0)), or(e, f))
	for what, q := range map[string]api.Query{"a Mode": {P: p, Mode: 3}, "a Within": {P: p, Within: -1}, "a Key": {P: p, Key: "-"}} {
		all[what+" that can't be, of a pattern that has much"] = q
	}
	full, _ := some(seq(a, a), api.MStrict, 15)
	all["a Var twice with all clauses"] = full
	return all
}

func TestRefused(t *testing.T) {
	for what, q := range wrong() {
		wantRefused(t, what, q)
	}
}

// TestNoDialect: whether the query is right or not.
func TestNoDialect(t *testing.T) {
	full, _ := some(seq(a, and(b, many("c", 1, 0)), not("d")), api.MNear, 15)
	queries := []api.Query{of(a), of(and(a, b)), full}
	for _, q := range wrong() {
		queries = append(queries, q)
	}
	for _, d := range ends(api.DMr) {
		for _, q := range queries {
			if l, e := able.Notes(d, q); len(l) != 0 || e != api.ErrArg {
				t.Errorf("Notes(%d, %s): %v, %d; want none, %d", d, said(q), l, e, api.ErrArg)
			}
		}
	}
}

// wantNotes asks one dialect.
func wantNotes(t *testing.T, d int, q api.Query, want string) {
	t.Helper()
	if l, e := able.Notes(d, q); !slices.Equal(told(l), noted(want)) || e != api.OK {
		t.Errorf("Notes(%d, %s): %q, %d; want %q, 0", d, said(q), told(l), e, want)
	}
}

func TestNotes(t *testing.T) {
	p := seq(and(a, many("b", 2, 2)), not("m"), or(c, many("d", 1, 0)), not("n"))
	q := api.Query{P: p, Key: "k", Within: 5, Items: []api.Item{item("i", api.ICount, "a", "")}}
	wantUses(t, q, "seq; 0 and; 0.1 exact; 0.1 deep; 1 not; 2 or; 2.1 many; 3 tail; key; any; within; items")
	wantNotes(t, api.DSase, q, "0 and")
	wantNotes(t, api.DEpl, q, "2.1 many; key; items")
	wantNotes(t, api.DMr, q, "0.1 deep; 1 not; 3 tail; any")
	q.Mode = api.MNear
	wantNotes(t, api.DSase, q, "0 and")
	wantNotes(t, api.DEpl, q, "2.1 many; key; near; items")
	wantNotes(t, api.DMr, q, "0.1 deep; 1 not; 3 tail")
	q.Mode = api.MStrict
	wantNotes(t, api.DEpl, q, "2.1 many; key; strict; items")
	wantNotes(t, api.DMr, q, "0.1 deep; 1 not; 3 tail")
	// Nothing is lacked.
	wantNotes(t, api.DSase, of(a), "")
	wantNotes(t, api.DEpl, of(a), "")
	wantNotes(t, api.DMr, api.Query{P: a, Mode: api.MNear}, "")
	full, _ := some(seq(or(a, many("b", 1, 0)), not("c"), many("d", 2, 2), not("e")), api.MStrict, 15)
	wantNotes(t, api.DSase, full, "")
	wantNotes(t, api.DEpl, api.Query{P: seq(and(or(a, b), many("c", 3, 3), seq(d, not("e"), f)), not("g")), Within: 9, Where: []api.Expr{field("a")}}, "")
	full, _ = some(or(seq(and(a, b), many("c", 2, 2)), many("d", 1, 0)), api.MStrict, 15)
	wantNotes(t, api.DMr, full, "")
	// All is lacked, but for what no dialect lacks.
	q = api.Query{P: many("a", 1, 0), Key: "k", Mode: api.MNear, Items: []api.Item{item("i", api.ICount, "a", "")}}
	wantUses(t, q, "many; key; near; items")
	wantNotes(t, api.DEpl, q, "many; key; near; items")
	wantNotes(t, api.DMr, of(a), "any")
	wantUses(t, of(a), "any")
	// Each of several parts has its own.
	wantNotes(t, api.DSase, of(seq(and(a, b), and(c, seq(d, and(e, f))))), "0 and; 1 and; 1.1.1 and")
	wantNotes(t, api.DEpl, of(or(many("a", 1, 0), seq(many("b", 1, 2), many("c", 2, 2)))), "0 many; 1.0 many")
	wantNotes(t, api.DMr, api.Query{P: and(or(a, b), c, seq(d, not("e"), f)), Mode: api.MStrict}, "0 deep; 2 deep; 2.1 not")
}

// TestBest: those of two, one and none; no query is said by all three.
func TestBest(t *testing.T) {
	full, _ := some(a, api.MAny, 15)
	for _, w := range []struct {
		what string
		q    api.Query
		best []int
	}{
		{"an atom", of(a), []int{1, 2}},
		{"an atom near", api.Query{P: a, Mode: api.MNear}, []int{1, 3}},
		{"an atom strict", api.Query{P: a, Mode: api.MStrict}, []int{1, 3}},
		{"a seq with nots", of(seq(a, not("b"), c, not("d"))), []int{1, 2}},
		{"a seq with a not near", api.Query{P: seq(a, not("b"), c), Mode: api.MNear}, []int{1}},
		{"a seq with a not at its end strict", api.Query{P: seq(a, not("b")), Mode: api.MStrict}, []int{1}},
		{"so many", of(many("a", 2, 2)), []int{1, 2}},
		{"any number", of(many("a", 1, 0)), []int{1}},
		{"from one number to another", of(many("a", 1, 2)), []int{1}},
		{"any number near", api.Query{P: many("a", 1, 0), Mode: api.MNear}, []int{1, 3}},
		{"an or", of(or(a, b)), []int{1, 2}},
		{"a key", api.Query{P: a, Key: "k"}, []int{1}},
		{"items", api.Query{P: a, Items: []api.Item{item("n", api.ICount, "a", "")}}, []int{1}},
		{"a window", api.Query{P: a, Within: 1}, []int{1, 2}},
		{"conditions", api.Query{P: a, Where: []api.Expr{field("a")}}, []int{1, 2}},
		{"all clauses", full, []int{1}},
		{"an and", of(and(a, b)), []int{2}},
		{"an and near", api.Query{P: and(a, b), Mode: api.MNear}, []int{3}},
		{"an and of a seq", of(and(a, seq(b, c))), []int{2}},
		{"an and of a seq near", api.Query{P: and(a, seq(b, c)), Mode: api.MNear}, nil},
		{"an and with a key", api.Query{P: and(a, b), Key: "k"}, nil},
		{"an and with a key near", api.Query{P: and(a, b), Key: "k", Mode: api.MNear}, []int{3}},
		{"an and of any number", of(and(a, many("b", 1, 0))), nil},
		{"an and behind a not", of(seq(a, not("b"), and(c, d))), []int{2}},
		{"an and behind a not near", api.Query{P: seq(a, not("b"), and(c, d)), Mode: api.MNear}, nil},
		{"what can't be", api.Query{}, nil},
		{"what is not well made", of(seq(a, a)), nil},
	} {
		if l := able.Best(w.q); !slices.Equal(l, w.best) {
			t.Errorf("Best of %s: %v, want %v", w.what, l, w.best)
		}
	}
}

// small has all patterns of rows with two parts each, up to some way down, whose leaves are of each kind; next counts Vars.
func small(deep int, next *int) []api.Pat {
	leaf := func(p api.Pat) api.Pat {
		*next++
		p.Var = "v" + strconv.Itoa(*next)
		return p
	}
	l := []api.Pat{leaf(a), leaf(not("n")), leaf(many("m", 1, 0)), leaf(many("m", 2, 2))}
	if deep > 1 {
		for _, k := range rows {
			for _, x := range small(deep-1, next) {
				for _, y := range small(deep-1, next) {
					l = append(l, row(k, x, y))
				}
			}
		}
	}
	return l
}

func TestOfSmall(t *testing.T) {
	next := 0
	right := 0
	for i, p := range small(3, &next) {
		q, _ := some(p, i%3, i%16)
		if wantAsModel(t, q) {
			right++
		}
	}
	if right < 1200 {
		t.Errorf("only %d are right and well made", right)
	}
}

// TestOfThree: all rows of three parts, each a leaf or a row of two leaves.
func TestOfThree(t *testing.T) {
	leaves := func(v string) []api.Pat { return []api.Pat{atom(v), not(v), many(v, 1, 0), many(v, 3, 3)} }
	parts := func(v string) []api.Pat {
		l := leaves(v)
		for _, k := range rows {
			l = append(l, row(k, atom(v), many(v+"_", 2, 0)), seq(atom(v), not(v+"_n"), atom(v+"_")))
		}
		return l
	}
	right := 0
	for _, k := range rows {
		for _, x := range parts("x") {
			for _, y := range parts("y") {
				for _, z := range parts("z") {
					if wantAsModel(t, of(row(k, x, y, z))) {
						right++
					}
				}
			}
		}
	}
	if right < 500 {
		t.Errorf("only %d are right and well made", right)
	}
}

func pick[T any](r *rand.Rand, l []T) T { return l[r.Intn(len(l))] }

// grown is a pattern of about n nodes; it is well made, but for its depth, as next counts Vars.
func grown(r *rand.Rand, n, but int, whole bool, next *int) api.Pat {
	*next++
	v := "v" + strconv.Itoa(*next)
	if n < 3 {
		lo := 2 + r.Intn(3)
		return pick(r, []api.Pat{atom(v), atom(v), atom(v), many(v, lo, pick(r, []int{0, lo, lo, lo + 1, api.MaxMany})), many(v, 1, 0)})
	}
	p := api.Pat{K: but}
	for p.K == but {
		p.K = pick(r, rows)
	}
	parts := 2 + r.Intn(min(n-2, 4))
	for i := range parts {
		p.L = append(p.L, grown(r, (n-1)/parts, p.K, false, next))
		if p.K == api.PSeq && r.Intn(4) == 0 && (i < parts-1 || whole) {
			*next++
			p.L = append(p.L, not("n"+strconv.Itoa(*next)))
		}
	}
	if p.K == api.POr && r.Intn(3) == 0 { // the same Vars again
		p.L = append(p.L, copiedPat(p.L[0]))
	}
	return p
}

// spoilt is p with one field of one node changed, so that it seldom is right.
func spoilt(r *rand.Rand, p api.Pat) api.Pat {
	p = copiedPat(p)
	x := &p
	for len(x.L) > 0 && r.Intn(3) != 0 {
		x = &x.L[r.Intn(len(x.L))]
	}
	switch r.Intn(6) {
	case 0:
		x.K += 1 - 2*r.Intn(2)
	case 1:
		x.Var = pick(r, []string{"", "v1", "v2", "V"})
	case 2:
		x.Type = pick(r, []string{"", "sell", "Buy"})
	case 3:
		x.Lo += 1 - 2*r.Intn(2)
	case 4:
		x.Hi += 1 - 2*r.Intn(2)
	default:
		x.L = append(x.L, pick(r, []api.Pat{a, not("n"), and(a, b), many("m", 1, 0)}))
	}
	return p
}

// someQuery has, more often than not, few clauses, so that each dialect says many.
func someQuery(r *rand.Rand) api.Query {
	next := 0
	q := of(grown(r, 1+r.Intn(40), 0, true, &next))
	if r.Intn(2) == 0 {
		q.Mode = 1 + r.Intn(2)
	}
	if r.Intn(3) == 0 {
		q.Key = pick(r, []string{"k", "sym_1", most})
	}
	if r.Intn(3) == 0 {
		q.Within = pick(r, []int64{1, 10, 77777, api.MaxWithin})
	}
	for i := range r.Intn(3) * r.Intn(2) {
		q.Items = append(q.Items, item("i"+strconv.Itoa(i), pick(r, []int{api.IFirst, api.ILast, api.ISum}), "v1", "x"))
	}
	for range r.Intn(3) {
		q.Where = append(q.Where, sum(1+2*r.Intn(4)))
	}
	return q
}

// wrecked is one that seldom may be.
func wrecked(r *rand.Rand) api.Query {
	q := someQuery(r)
	switch r.Intn(8) {
	case 0:
		q.Mode = pick(r, []int{-1, 3, math.MinInt, math.MaxInt})
	case 1:
		q.Within = pick(r, []int64{-1, api.MaxWithin + 1, math.MinInt64, math.MaxInt64})
	case 2:
		q.Key = pick(r, []string{"K", "_", "k k", "\x00"})
	case 3:
		q.Items = append(q.Items, api.Item{})
	case 4:
		q.Where = append(q.Where, api.Expr{K: r.Intn(20) - 1})
	default:
		q.P = spoilt(r, q.P)
	}
	return q
}

// leave takes away what d lacks of clauses, and of nodes, but for one of them now and then.
func leave(r *rand.Rand, d int, q api.Query) api.Query {
	q = copied(q)
	switch d {
	case api.DEpl:
		q.Key, q.Mode, q.Items = "", api.MAny, nil
	case api.DMr:
		q.Mode = 1 + r.Intn(2)
	}
	var mend func(p *api.Pat)
	mend = func(p *api.Pat) {
		for i := range p.L {
			mend(&p.L[i])
		}
		if r.Intn(30) == 0 {
			return
		}
		switch {
		case d == api.DSase && p.K == api.PAnd, d == api.DMr && p.K == api.PAnd && slices.ContainsFunc(p.L, func(x api.Pat) bool { return x.K != api.PAtom }):
			p.K = api.PSeq
		case d == api.DEpl && p.K == api.PMany:
			p.Lo, p.Hi = 2, 2
		case d == api.DMr:
			p.L = slices.DeleteFunc(p.L, func(x api.Pat) bool { return x.K == api.PNot })
		}
		var l []api.Pat
		for _, x := range p.L {
			if x.K == p.K && len(x.L) > 0 {
				l = append(l, x.L...)
			} else {
				l = append(l, x)
			}
		}
		p.L = l
	}
	mend(&q.P)
	return q
}

// TestAtRandom: for P22.3 each dialect says many of them, and many not.
func TestAtRandom(t *testing.T) {
	r := rand.New(rand.NewSource(2201))
	right, refused := 0, 0
	var is, isNot [4]int
	for i := range 12000 {
		q := someQuery(r)
		switch i % 4 {
		case 0:
			q = wrecked(r)
		case 1:
			q = leave(r, pick(r, dialects), q)
		}
		if !wantAsModel(t, q) {
			refused++
			continue
		}
		right++
		for _, d := range dialects {
			if says(d, q) {
				is[d]++
			} else {
				isNot[d]++
			}
		}
	}
	if right < 5000 || refused < 1000 {
		t.Errorf("%d are right, %d are not", right, refused)
	}
	for _, d := range dialects {
		if is[d] < 500 || isNot[d] < 500 {
			t.Errorf("dialect %d says %d, and does not say %d", d, is[d], isNot[d])
		}
	}
}

// TestOfParsed: what is read in a dialect has no notes there.
func TestOfParsed(t *testing.T) {
	for _, w := range []struct {
		d int
		s string
	}{
		{api.DSase, "PATTERN SEQ(buy a, !sell b, buy c+) WHERE a.x < c.x WITHIN 10 RETURN COUNT(c) AS n"},
		{api.DSase, "PATTERN SEQ(buy a, (buy b | SEQ(buy c{2,3}, !buy d, buy e)), !sell f) PARTITION BY k MODE STRICT WITHIN 9"},
		{api.DEpl, "EVERY a=buy -> NOT b=sell -> c=buy OR d=sell WHERE a.x < 3 WITHIN 10"},
		{api.DEpl, "EVERY (a=buy -> [2] b=sell) AND (c=buy OR d=sell) -> NOT e=buy"},
		{api.DMr, "MATCH (ROWS NEAR PATTERN (a b+ | c) DEFINE a AS buy, b AS sell, c AS buy)"},
		{api.DMr, "MATCH (PARTITION BY k MEASURES SUM(a.x) AS n ROWS STRICT PATTERN (PERMUTE(a, b) (c{2} | d{3,}) e{2,4}) WITHIN 9 DEFINE a AS buy, b AS sell, c AS buy, d AS tick, e AS buy)"},
	} {
		read := []func(string) (api.Query, int, api.Errno){nil, sase.Parse, epl.Parse, mr.Parse}[w.d]
		q, _, e := read(w.s)
		if e != api.OK {
			t.Fatalf("%q: %d", w.s, e)
		}
		wantNotes(t, w.d, q, "")
		if !slices.Contains(able.Best(q), w.d) || !wantAsModel(t, q) {
			t.Errorf("Best of %q: %v", w.s, able.Best(q))
		}
	}
}

// TestListsAreApart: what is set into a list of an answer, or behind it, is seen in no other list, nor in a later answer.
func TestListsAreApart(t *testing.T) {
	q, _ := some(seq(and(a, many("b", 2, 2), seq(c, not("m"), or(d, many("e", 1, 0)))), or(f, and(atom("g"), or(atom("h"), atom("i")))), not("n")), api.MNear, 15)
	was := copied(q)
	asks := []func() []api.Note{func() []api.Note { l, _ := able.Uses(q); return l }}
	for _, d := range dialects {
		asks = append(asks, func() []api.Note { l, _ := able.Notes(d, q); return l })
	}
	for which, ask := range asks {
		want := told(ask())
		for i := range want {
			l := ask()
			_ = append(l[i].Way, 99, 99, 99)
			if !slices.Equal(told(l), want) {
				t.Errorf("answer %d: behind the way of note %d is another one", which, i)
			}
			for j := range l[i].Way {
				l[i].Way[j] = 77
			}
			l[i].What = api.NSeq
			others := slices.Delete(slices.Clone(want), i, i+1)
			if got := slices.Delete(told(l), i, i+1); !slices.Equal(got, others) {
				t.Errorf("answer %d: with the way of note %d others have changed: %q, want %q", which, i, got, others)
			}
			if got := told(ask()); !slices.Equal(got, want) {
				t.Errorf("answer %d is kept: %q, want %q", which, got, want)
			}
		}
		l := ask()
		_ = append(l, api.Note{What: 99})
		clear(l[:cap(l)])
		if got := told(ask()); !slices.Equal(got, want) {
			t.Errorf("answer %d is kept: %q, want %q", which, got, want)
		}
	}
	l := able.Best(of(a))
	l[0], l[1] = 9, 9
	_ = append(l, 9)
	if got := able.Best(of(a)); !slices.Equal(got, []int{api.DSase, api.DEpl}) {
		t.Errorf("Best is kept: %v", got)
	}
	if !query.Same(q, was) {
		t.Errorf("an answer shares memory with the query: %s", said(q))
	}
}

// TestNilAndEmpty: lists that are nil or empty are the same.
func TestNilAndEmpty(t *testing.T) {
	x, y := a, many("b", 2, 2)
	x.L, y.L = []api.Pat{}, []api.Pat{}
	wantUses(t, api.Query{P: x, Where: []api.Expr{}, Items: []api.Item{}}, "any")
	wantUses(t, api.Query{P: and(x, y), Where: []api.Expr{}, Items: []api.Item{}}, "and; 1 exact; 1 deep; any")
	wantUses(t, api.Query{P: and(a, y)}, "and; 1 exact; 1 deep; any")
}

// roomy has q's lists with room behind them, in which other things lie.
func roomy(q api.Query) api.Query {
	q = copied(q)
	var room func(p *api.Pat)
	room = func(p *api.Pat) {
		for i := range p.L {
			room(&p.L[i])
		}
		p.L = append(slices.Clip(p.L), api.Pat{K: 77})[:len(p.L)]
	}
	room(&q.P)
	q.Where = append(slices.Clip(q.Where), api.Expr{K: 77})[:len(q.Where)]
	q.Items = append(slices.Clip(q.Items), api.Item{K: 77})[:len(q.Items)]
	return q
}

func roomIsLeft(q api.Query) bool {
	for _, x := range stands(q.P) {
		if x.p.L[:len(x.p.L)+1][len(x.p.L)].K != 77 {
			return false
		}
	}
	return q.Where[:len(q.Where)+1][len(q.Where)].K == 77 && q.Items[:len(q.Items)+1][len(q.Items)].K == 77
}

// TestWhatIsHandedIn: it is neither changed nor kept, nor is what lies behind its lists.
func TestWhatIsHandedIn(t *testing.T) {
	r := rand.New(rand.NewSource(2202))
	for i := range 2000 {
		q := someQuery(r)
		if i%2 == 1 {
			q = wrecked(r)
		}
		x := roomy(q)
		wantAsModel(t, x)
		if !roomIsLeft(x) || !query.Same(x, q) {
			t.Errorf("%s: what lies behind its lists is changed", said(q))
		}
	}
	q := of(seq(a, and(b, many("c", 1, 0)), not("d")))
	l, _ := able.Uses(q)
	q.P.L[1].L[1] = a
	q.P.L[2] = b
	if got := strings.Join(told(l), "; "); got != "seq; 1 and; 1.1 many; 1.1 deep; 2 tail; any" {
		t.Errorf("the answer has become %q", got)
	}
}

// TestAgain: what is answered hangs on no call ahead of it.
func TestAgain(t *testing.T) {
	r := rand.New(rand.NewSource(2203))
	var l []api.Query
	for range 300 {
		l = append(l, someQuery(r), wrecked(r))
	}
	for range 2 {
		for _, q := range l {
			wantAsModel(t, q)
			wantAsModel(t, q)
		}
		slices.Reverse(l)
	}
}

func FuzzAble(f *testing.F) {
	for i := range int64(8) {
		f.Add(i, int64(7), 1, "k", 3)
	}
	f.Fuzz(func(t *testing.T, seed, within int64, mode int, key string, n int) {
		r := rand.New(rand.NewSource(seed))
		x, y, z := someQuery(r), someQuery(r), wrecked(r)
		y.Within, y.Mode, y.Key = within, mode, key
		for _, q := range []api.Query{x, y, z} {
			wantAsModel(t, q)
		}
		if got := able.Word(n); got != strings.TrimSuffix(wordOf(n), "?") {
			t.Errorf("Word(%d): %q", n, got)
		}
		for d := range 5 {
			if got := able.Lacks(d, n); got != lacking(d, wordOf(n)) {
				t.Errorf("Lacks(%d, %d): %v", d, n, got)
			}
		}
		if got := able.Lacks(n, 1+r.Intn(14)); got && (n < 1 || n > 3) {
			t.Errorf("Lacks(%d): true", n)
		}
	})
}
