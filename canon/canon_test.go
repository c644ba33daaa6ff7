package canon_test

import (
	"fmt"
	"maps"
	"math"
	"math/rand"
	"slices"
	"strings"
	"testing"

	"haruspex/api"
	"haruspex/canon"
	"haruspex/expr"
	"haruspex/order"
	"haruspex/pat"
	"haruspex/query"
)

var (
	rows = []int{api.PSeq, api.PAnd, api.POr}
	// noRows are kinds whose parts stay parts, whatever they are.
	noRows = []int{api.PAtom, api.PMany, api.PNot, 0, -1, 7, 99, math.MinInt, math.MaxInt}
)

func atom(v, t string) api.Pat { return api.Pat{K: api.PAtom, Var: v, Type: t} }

func not(v, t string) api.Pat { return api.Pat{K: api.PNot, Var: v, Type: t} }

func many(v, t string, lo, hi int) api.Pat {
	return api.Pat{K: api.PMany, Var: v, Type: t, Lo: lo, Hi: hi}
}

func row(k int, l ...api.Pat) api.Pat { return api.Pat{K: k, L: l} }

func seq(l ...api.Pat) api.Pat { return row(api.PSeq, l...) }

func and(l ...api.Pat) api.Pat { return row(api.PAnd, l...) }

func or(l ...api.Pat) api.Pat { return row(api.POr, l...) }

func num(n int64) api.Expr { return api.Expr{K: api.XConst, V: api.Value{K: api.VInt, N: n}} }

func field(v, f string) api.Expr { return api.Expr{K: api.XField, Var: v, Field: f} }

func op(k int, l ...api.Expr) api.Expr { return api.Expr{K: k, L: l} }

func less(v, w string) api.Expr { return op(api.XLt, field(v, "x"), field(w, "x")) }

func is(v string, n int64) api.Expr { return op(api.XEq, field(v, "x"), num(n)) }

// ors has n nodes.
func ors(n int) api.Expr { return op(api.XOr, slices.Repeat([]api.Expr{num(1)}, n-1)...) }

func item(name string, k int, v, f string) api.Item {
	return api.Item{Name: name, K: k, Var: v, Field: f}
}

// leaf is the i-th of a row of atoms that are sorted.
func leaf(i int) api.Pat { return atom(fmt.Sprint("a", i), fmt.Sprintf("t%03d", i)) }

func leaves(n int) []api.Pat {
	var l []api.Pat
	for i := range n {
		l = append(l, leaf(i))
	}
	return l
}

func copied(p api.Pat) api.Pat {
	l := make([]api.Pat, len(p.L))
	for i, x := range p.L {
		l[i] = copied(x)
	}
	p.L = l
	return p
}

func copiedCond(x api.Expr) api.Expr {
	l := make([]api.Expr, len(x.L))
	for i, y := range x.L {
		l[i] = copiedCond(y)
	}
	x.L = l
	return x
}

// copiedQuery has empty lists where q has nil ones.
func copiedQuery(q api.Query) api.Query {
	l := make([]api.Expr, len(q.Where))
	for i, x := range q.Where {
		l[i] = copiedCond(x)
	}
	q.P, q.Where = copied(q.P), l
	q.Items = append([]api.Item{}, q.Items...)
	return q
}

func tellPat(b *strings.Builder, p api.Pat) {
	fmt.Fprintf(b, "(%d %q %q %d %d %d", p.K, p.Var, p.Type, p.Lo, p.Hi, len(p.L))
	for _, x := range p.L {
		tellPat(b, x)
	}
	b.WriteByte(')')
}

func tellCond(b *strings.Builder, x api.Expr) {
	fmt.Fprintf(b, "(%d %d %d %q %q %q %d", x.K, x.V.K, x.V.N, x.V.S, x.Var, x.Field, len(x.L))
	for _, y := range x.L {
		tellCond(b, y)
	}
	b.WriteByte(')')
}

// said tells all fields of all nodes, so two are the same if this is.
func said(l ...api.Pat) string {
	var b strings.Builder
	for _, p := range l {
		tellPat(&b, p)
	}
	return b.String()
}

func saidCond(x api.Expr) string {
	var b strings.Builder
	tellCond(&b, x)
	return b.String()
}

func saidQuery(q api.Query) string {
	var b strings.Builder
	tellPat(&b, q.P)
	fmt.Fprintf(&b, " key %q mode %d within %d where %d", q.Key, q.Mode, q.Within, len(q.Where))
	for _, x := range q.Where {
		tellCond(&b, x)
	}
	fmt.Fprintf(&b, " items %d", len(q.Items))
	for _, x := range q.Items {
		fmt.Fprintf(&b, "(%q %d %q %q)", x.Name, x.K, x.Var, x.Field)
	}
	return b.String()
}

func short(s string) string { return fmt.Sprintf("%.600s", s) }

// Models of the chapter's words, by other means.

func isRow(k int) bool { return k == 2 || k == 3 || k == 4 }

// inserted sets each behind those that are not greater.
func inserted[T any](l []T, order func(a, b T) int) []T {
	var out []T
	for _, x := range l {
		i := len(out)
		for i > 0 && order(out[i-1], x) > 0 {
			i--
		}
		out = slices.Insert(out, i, x)
	}
	return out
}

// tightOf gathers once, from the leaves on, what the parts of each node mean.
func tightOf(p api.Pat) api.Pat {
	var l []api.Pat
	for _, x := range p.L {
		if x = tightOf(x); isRow(p.K) && x.K == p.K && len(x.L) > 0 {
			l = append(l, x.L...)
		} else {
			l = append(l, x)
		}
	}
	if p.K == 4 {
		seen := map[string]bool{}
		l = slices.DeleteFunc(l, func(x api.Pat) bool {
			again := seen[said(x)]
			seen[said(x)] = true
			return again
		})
	}
	if p.K == 3 || p.K == 4 {
		l = inserted(l, order.Form)
	}
	if isRow(p.K) && len(l) == 1 {
		return l[0]
	}
	p.L = l
	return p
}

// loose tells by its fields alone whether a node has something that a rule would change.
func loose(p api.Pat) bool {
	if !isRow(p.K) {
		return false
	}
	seen := map[string]bool{}
	for i, x := range p.L {
		if x.K == p.K && len(x.L) > 0 || p.K != 2 && i > 0 && order.Form(p.L[i-1], x) > 0 || p.K == 4 && seen[said(x)] {
			return true
		}
		seen[said(x)] = true
	}
	return len(p.L) == 1
}

func anyLoose(p api.Pat) bool { return loose(p) || slices.ContainsFunc(p.L, anyLoose) }

// eachVar hands over all Vars of q, which it may change.
func eachVar(q *api.Query, do func(v *string)) {
	var inPat func(p *api.Pat)
	inPat = func(p *api.Pat) {
		if p.K == 1 || p.K == 5 || p.K == 6 {
			do(&p.Var)
		}
		for i := range p.L {
			inPat(&p.L[i])
		}
	}
	var inCond func(x *api.Expr)
	inCond = func(x *api.Expr) {
		if x.K == 2 {
			do(&x.Var)
		}
		for i := range x.L {
			inCond(&x.L[i])
		}
	}
	inPat(&q.P)
	for i := range q.Where {
		inCond(&q.Where[i])
	}
	for i := range q.Items {
		do(&q.Items[i].Var)
	}
}

// varsOf has the Vars in the order in which they stand first.
func varsOf(p api.Pat) []string {
	var l []string
	eachVar(&api.Query{P: copied(p)}, func(v *string) {
		if !slices.Contains(l, *v) {
			l = append(l, *v)
		}
	})
	return l
}

func renamed(q api.Query, from, to []string) api.Query {
	q = copiedQuery(q)
	eachVar(&q, func(v *string) {
		if i := slices.Index(from, *v); i >= 0 {
			*v = to[i]
		}
	})
	return q
}

func numbered(n int) []string {
	var l []string
	for i := range n {
		l = append(l, fmt.Sprintf("v%d", i))
	}
	return l
}

func condsOf(l []api.Expr) []api.Expr {
	var once []api.Expr
	seen := map[string]bool{}
	for _, x := range l {
		if !seen[saidCond(x)] {
			once = append(once, x)
		}
		seen[saidCond(x)] = true
	}
	return inserted(once, expr.Order)
}

// formOfQuery is what the chapter says of a right query, and its Vars by their numbers.
func formOfQuery(q api.Query) (api.Query, []string) {
	q = copiedQuery(q)
	q.P = tightOf(q.P)
	vars := varsOf(q.P)
	q = renamed(q, vars, numbered(len(vars)))
	q.Where = condsOf(q.Where)
	return q, vars
}

// Trees and queries at random.

func pick[T any](r *rand.Rand, l []T) T { return l[r.Intn(len(l))] }

func pickLeaf(r *rand.Rand) api.Pat {
	return pick(r, []api.Pat{atom("a", "x"), atom("b", "x"), atom("c", "y"), atom("a", "x"), many("m", "x", 1, 0), many("m", "x", 2, 3), not("n", "y"), {}, {K: 7}})
}

// wild may be anything; few leaves are others, so that many parts are the same, and rows may have no parts, or one.
func wild(r *rand.Rand, deep int) api.Pat {
	if deep <= 1 || r.Intn(5) == 0 {
		return pickLeaf(r)
	}
	p := row(pick(r, rows))
	switch r.Intn(40) {
	case 0:
		p.K = pick(r, noRows)
	case 1:
		p.Var, p.Type = "v", "w"
	case 2:
		p.Lo, p.Hi = r.Intn(3)-1, r.Intn(3)-1
	}
	n := r.Intn(4)
	if n == 0 {
		n = r.Intn(3)
	}
	for range n {
		if len(p.L) > 0 && r.Intn(4) == 0 {
			p.L = append(p.L, copied(pick(r, p.L)))
		} else {
			p.L = append(p.L, wild(r, deep-1))
		}
	}
	if len(p.L) == 0 && r.Intn(2) == 0 {
		p.L = []api.Pat{}
	}
	return p
}

// rightPat is right, of at most MaxNodes nodes.
func rightPat(r *rand.Rand, deep, above int, leaf func(r *rand.Rand) api.Pat) api.Pat {
	if deep <= 1 || above != 0 && r.Intn(3) == 0 {
		return leaf(r)
	}
	p := row(pick(r, rows))
	for p.K == above {
		p.K = pick(r, rows)
	}
	for len(p.L) < 2 || len(p.L) < 4 && r.Intn(3) == 0 {
		x := rightPat(r, deep-1, p.K, leaf)
		if len(p.L) > 0 && r.Intn(3) == 0 {
			x = shuffled(r, pick(r, p.L))
		}
		p.L = append(p.L, x)
	}
	return p
}

// shuffled differs from p in the order of PAnd's and POr's parts alone.
func shuffled(r *rand.Rand, p api.Pat) api.Pat {
	p = copied(p)
	for i := range p.L {
		p.L[i] = shuffled(r, p.L[i])
	}
	if p.K == api.PAnd || p.K == api.POr {
		r.Shuffle(len(p.L), func(i, j int) { p.L[i], p.L[j] = p.L[j], p.L[i] })
	}
	return p
}

// fewLeaf has few Vars and Types, so that many parts have one form.
func fewLeaf(r *rand.Rand) api.Pat {
	v := pick(r, []string{"a", "b", "c", "v0", "v1", "v2"})
	switch r.Intn(6) {
	case 0:
		return not(v, "x")
	case 1:
		return many(v, pick(r, []string{"x", "y"}), 2, 0)
	}
	return atom(v, pick(r, []string{"x", "y", "z"}))
}

// ownLeaf has a Type that no other Var has, so parts that have one form are the same.
func ownLeaf(r *rand.Rand) api.Pat {
	i := r.Intn(30)
	return []api.Pat{atom(fmt.Sprint("a", i), fmt.Sprint("t", i)), not(fmt.Sprint("n", i), fmt.Sprint("t", i)), many(fmt.Sprint("m", i), fmt.Sprint("t", i), 2, i+2)}[i%3]
}

func pickConds(r *rand.Rand, v func() string) []api.Expr {
	var l []api.Expr
	for range r.Intn(8) {
		l = append(l, pick(r, []api.Expr{num(3), less(v(), v()), is(v(), int64(r.Intn(2))), op(api.XNot, less(v(), v())), op(api.XOr, less(v(), v()), op(api.XAnd, is(v(), 1), is(v(), 2)))}))
		if r.Intn(3) == 0 {
			l = append(l, copiedCond(pick(r, l)))
		}
	}
	return l
}

func pickItems(r *rand.Rand, v func() string) []api.Item {
	var l []api.Item
	for i := range r.Intn(5) {
		x := item(fmt.Sprint("n", r.Intn(100)*10+i), 1+r.Intn(4), v(), "x")
		if x.K == api.ICount {
			x.Field = ""
		}
		l = append(l, x)
	}
	return l
}

// rightQuery is right; v tells a Var for a condition or an item.
func rightQuery(r *rand.Rand, leaf func(r *rand.Rand) api.Pat, others ...string) api.Query {
	for {
		q := api.Query{P: rightPat(r, 1+r.Intn(5), 0, leaf), Key: pick(r, []string{"", "k", "v0"}), Mode: r.Intn(3), Within: pick(r, []int64{0, 1, 7, api.MaxWithin})}
		vars := append(varsOf(q.P), others...)
		v := func() string { return pick(r, vars) }
		q.Where, q.Items = pickConds(r, v), pickItems(r, v)
		if query.Check(q) == api.OK {
			return q
		}
	}
}

// P16.1

// listsOf has the first elements of all lists: no two may be one.
func listsOf(l []api.Pat) []*api.Pat {
	var all []*api.Pat
	if len(l) > 0 {
		all = append(all, &l[0])
	}
	for _, p := range l {
		all = append(all, listsOf(p.L)...)
	}
	return all
}

// spoil changes all that the lists hold; what shares memory with them shows that.
func spoil(l []api.Pat) {
	for i := range l {
		spoil(l[i].L)
		l[i] = api.Pat{K: 99, Var: "spoilt"}
	}
	clear(l[len(l):cap(l)])
}

// wantTight asks for the answer, for that of the answer, and whether what is handed in is left alone.
func wantTight(t *testing.T, what string, p, want api.Pat) {
	t.Helper()
	was, asked := said(p), said(want)
	got := canon.Tight(p)
	if said(got) != asked {
		t.Errorf("%s: Tight of %s: %s, want %s", what, short(was), short(said(got)), short(asked))
	}
	if again := canon.Tight(got); said(again) != asked {
		t.Errorf("%s: Tight of what is tight, %s: %s", what, short(asked), short(said(again)))
	}
	if said(p) != was || said(got) != asked {
		t.Errorf("%s: Tight changed what it was given, %s", what, short(was))
	}
	seen := map[*api.Pat]int{}
	for _, x := range listsOf(got.L) {
		if seen[x]++; seen[x] > 1 {
			t.Errorf("%s: two lists of Tight of %s share memory", what, short(was))
		}
	}
	other := canon.Tight(p)
	spoil(got.L)
	if said(p) != was || said(other) != asked {
		t.Errorf("%s: Tight of %s shares memory with what was given, or with another answer", what, short(was))
	}
}

// wantTightAt asks of p also where it stands within others that change nothing of it: below a kind that is no row, and in a row of another kind.
func wantTightAt(t *testing.T, what string, p, want api.Pat) {
	t.Helper()
	wantTight(t, what, p, want)
	for _, k := range noRows {
		wantTight(t, what+" in no row", row(k, p), row(k, want))
		wantTight(t, what+" in no row", row(k, leaf(7), p, leaf(3)), row(k, leaf(7), want, leaf(3)))
	}
	for _, k := range rows {
		if k == want.K {
			continue
		}
		y, z, m := greatest("y"), greatest("z"), otherThan(k, want.K)
		wantTight(t, what+" in a row", row(k, p, z), row(k, want, z))
		wantTight(t, what+" in a row in a row", row(k, row(m, p, y), z), row(k, row(m, want, y), z))
		wantTight(t, what+" alone", row(k, p), want)
		wantTight(t, what+" alone twice", row(m, row(k, p)), want)
	}
}

// greatest is a leaf behind which no other is sorted, but one of a later name.
func greatest(s string) api.Pat { return api.Pat{K: math.MaxInt, Type: "\xff\xff" + s} }

// otherThan is a kind of rows that is neither.
func otherThan(k, m int) int {
	for _, x := range rows {
		if x != k && x != m {
			return x
		}
	}
	return 0
}

func TestTightExamples(t *testing.T) {
	a, b, c := atom("a", "buy"), atom("b", "buy"), atom("c", "sell")
	wantTight(t, "the chapter's", or(atom("b", "b"), atom("a", "a")), or(atom("a", "a"), atom("b", "b")))
	wantTight(t, "the document's", and(c, b), and(b, c))
	wantTight(t, "a row of all", seq(seq(a), or(and(c, b), and(c, b))), seq(a, and(b, c)))
}

func TestTightOfWhatIsTight(t *testing.T) {
	a, b, c, n, m := leaf(0), leaf(1), leaf(2), not("n", "t001"), many("m", "t001", 2, 3)
	for _, p := range []api.Pat{a, n, m, seq(a, b), seq(b, a), seq(b, n, a), seq(a, a), and(a, b), and(a, a), or(a, b), and(a, b, m, n), or(a, b, m, n), seq(c, and(a, b, or(b, c)), or(c, and(a, b))), or(a, seq(c, and(a, b), n))} {
		if anyLoose(p) {
			t.Errorf("%s is loose", said(p))
		}
		wantTightAt(t, "what is tight", p, p)
	}
}

// ownKind has rows of k with parts of k, all of which mean the leaves in their order.
func ownKind(k, n int) []api.Pat {
	l := leaves(n)
	var all []api.Pat
	for from := range n {
		for to := from + 1; to <= n; to++ {
			if to-from == n {
				continue
			}
			in := append(append(slices.Clone(l[:from]), row(k, l[from:to]...)), l[to:]...)
			all = append(all, row(k, in...))
			for mid := from + 1; mid < to; mid++ {
				parts := append(append(slices.Clone(l[:from]), row(k, l[from:mid]...), row(k, l[mid:to]...)), l[to:]...)
				all = append(all, row(k, parts...))
				deeper := append(append(slices.Clone(l[:from]), row(k, row(k, l[from:mid]...), row(k, row(k, l[mid:to]...)))), l[to:]...)
				all = append(all, row(k, deeper...))
			}
		}
	}
	return all
}

func TestTightOfPartsOfTheOwnKind(t *testing.T) {
	a, b, c, d, e := leaf(0), leaf(1), leaf(2), leaf(3), leaf(4)
	for _, k := range rows {
		want := row(k, a, b, c, d)
		wantTightAt(t, "at the first place", row(k, row(k, a, b), c, d), want)
		wantTightAt(t, "at the middle place", row(k, a, row(k, b, c), d), want)
		wantTightAt(t, "at the last place", row(k, a, b, row(k, c, d)), want)
		wantTightAt(t, "at the first and the last", row(k, row(k, a, b), row(k, c, d)), want)
		wantTightAt(t, "a part of a part, at the first place", row(k, row(k, row(k, a, b), c), d), want)
		wantTightAt(t, "a part of a part, at the middle place", row(k, row(k, a, row(k, b, c), d), e), row(k, a, b, c, d, e))
		wantTightAt(t, "a part of a part, at the last place", row(k, a, row(k, b, row(k, c, d))), want)
		wantTightAt(t, "a part of a part of a part", row(k, a, row(k, row(k, row(k, b, c)), d)), want)
		for n := 2; n <= 5; n++ {
			for _, p := range ownKind(k, n) {
				wantTightAt(t, "each place", p, row(k, leaves(n)...))
			}
		}
		for _, m := range rows {
			if m != k {
				wantTightAt(t, "another kind", row(k, a, row(m, b, c)), row(k, a, row(m, b, c)))
				wantTightAt(t, "another kind with parts of its own", row(k, a, row(m, b, row(m, c, d))), row(k, a, row(m, b, c, d)))
				wantTightAt(t, "another kind with a part of the first", row(k, a, row(m, b, row(k, c, d))), row(k, a, row(m, b, row(k, c, d))))
			}
		}
	}
	wantTight(t, "a PSeq's order", seq(c, seq(b, d), a, seq(e)), seq(c, b, d, a, e))
}

func TestTightOfOnePartAlone(t *testing.T) {
	a, b, c := leaf(0), leaf(1), leaf(2)
	alone := []api.Pat{a, not("n", "x"), many("m", "x", 2, 0), {}, {K: 7}, {K: 7, L: []api.Pat{a}}, seq(b, a), and(a, b), or(a, b), seq(a, or(b, c))}
	for _, k := range rows {
		for _, p := range alone {
			wantTightAt(t, "one part alone", row(k, p), p)
			for _, m := range rows {
				wantTightAt(t, "one alone in one alone", row(m, row(k, p)), p)
				for _, j := range rows {
					wantTightAt(t, "one alone in one alone in one alone", row(j, row(m, row(k, p))), p)
				}
			}
		}
		for _, m := range rows {
			want := row(k, a, b, c)
			wantTightAt(t, "one alone of the kind above, at the first place", row(k, row(m, row(k, a, b)), c), want)
			wantTightAt(t, "one alone of the kind above, at the last place", row(k, a, row(m, row(k, b, c))), want)
			wantTightAt(t, "one alone of the kind above, twice", row(k, row(m, row(k, a)), row(m, row(k, b, c))), want)
			wantTightAt(t, "one alone that is alone, of the kind above", row(k, a, row(m, row(otherThan(k, m), row(k, b, c)))), want)
			wantTightAt(t, "one alone of no row's kind", row(k, a, row(m, b), c), want)
		}
	}
}

func TestTightWithoutParts(t *testing.T) {
	a, b, c := leaf(0), leaf(1), leaf(2)
	for _, k := range rows {
		none := row(k)
		wantTight(t, "without parts", none, none)
		wantTight(t, "with an empty list", row(k, []api.Pat{}...), none)
		wantTight(t, "one of its own kind alone", row(k, none), none)
		wantTight(t, "one of its own kind alone, twice", row(k, row(k, none)), none)
		wantTight(t, "at the last place", row(k, a, b, none), row(k, a, b, none))
		wantTight(t, "in a part that gives way", row(k, a, row(k, b, none)), row(k, a, b, none))
		wantTight(t, "in a part that is meant", row(k, a, row(k, none)), row(k, a, none))
		for _, m := range rows {
			wantTight(t, "another one alone", row(m, none), none)
			wantTight(t, "with one of another kind", row(m, a, none), row(m, a, none))
			wantTight(t, "in one alone", row(m, a, row(k, row(m))), row(m, a, row(m)))
		}
		for _, j := range noRows {
			wantTight(t, "in no row", row(j, none, a), row(j, none, a))
			wantTight(t, "in no row, alone", row(j, none), row(j, none))
		}
	}
	wantTight(t, "a PSeq's places", seq(seq(), a, seq(), b, and(), c, or()), seq(seq(), a, seq(), b, and(), c, or()))
	wantTight(t, "a PSeq's places, in a part", seq(a, seq(seq(), b), seq(seq(), seq())), seq(a, seq(), b, seq(), seq()))
	wantTight(t, "a PAnd sorts them", and(and(), a, seq(), or(), b, and()), and(a, b, seq(), and(), and(), or()))
	wantTight(t, "a POr has each once", or(or(), a, seq(), or(), b, seq(), and(), a), or(a, b, seq(), and(), or()))
	wantTight(t, "a POr of the same", or(or(), or()), or())
	wantTight(t, "a POr of the same of another kind", or(seq(), seq(), seq()), seq())
	wantTight(t, "a POr of the same, as a part of that kind", seq(a, or(seq(), seq())), seq(a, seq()))
}

func permuted(n int, use func(places []int)) {
	var down func(l, left []int)
	down = func(l, left []int) {
		if len(left) == 0 {
			use(l)
		}
		for i, x := range left {
			down(append(slices.Clone(l), x), slices.Delete(slices.Clone(left), i, i+1))
		}
	}
	var all []int
	for i := range n {
		all = append(all, i)
	}
	down(nil, all)
}

func pats(l []api.Pat, places ...int) []api.Pat {
	var out []api.Pat
	for _, i := range places {
		out = append(out, l[i])
	}
	return out
}

func TestTightSorts(t *testing.T) {
	a, b := atom("z", "buy"), atom("y", "sell")
	up := []api.Pat{a, b, seq(a, b), many("x", "buy", 1, 0), many("w", "buy", 2, 0), not("v", "buy")}
	permuted(len(up), func(places []int) {
		l := pats(up, places...)
		wantTight(t, "a PSeq", seq(l...), tightOf(seq(l...)))
		wantTight(t, "a PAnd", and(l...), and(up...))
		wantTight(t, "a POr", or(l...), or(up...))
	})
	wantTight(t, "a PSeq is not sorted", seq(b, a, and(b, a), or(b, a)), seq(b, a, and(a, b), or(a, b)))
	wantTight(t, "a PAnd keeps what is the same", and(b, a, b, a, a), and(a, a, a, b, b))
	wantTight(t, "a PAnd of two that are the same", and(b, b), and(b, b))
	wantTight(t, "a PSeq of two that are the same", seq(b, b), seq(b, b))
	wantTight(t, "no row is not sorted", row(7, b, a, b), row(7, b, a, b))
	for _, k := range []int{api.PAnd, api.POr} {
		wantTightAt(t, "by kind", row(k, not("a", "a"), many("b", "a", 1, 0), seq(a, b), a), row(k, a, seq(a, b), many("b", "a", 1, 0), not("a", "a")))
		wantTightAt(t, "what a part gives", row(k, b, row(k, leaf(3), a), leaf(2)), row(k, a, b, leaf(2), leaf(3)))
		wantTightAt(t, "parts of parts", row(k, seq(row(k, b, a), b), seq(a, b)), row(k, seq(a, b), seq(row(k, a, b), b)))
		wantTightAt(t, "by what is left of parts", row(k, seq(b), row(k, seq(a)), seq(a, seq(b))), row(k, a, b, seq(a, b)))
	}
}

// TestTightLeavesWhatHasOneForm has parts that differ in their Vars alone: they stay as they stood, told by what is left of them.
func TestTightLeavesWhatHasOneForm(t *testing.T) {
	a, b, c, z := atom("a", "x"), atom("b", "x"), atom("c", "x"), atom("z", "w")
	for _, k := range []int{api.PAnd, api.POr} {
		permuted(3, func(places []int) {
			l := pats([]api.Pat{a, b, c}, places...)
			wantTightAt(t, "as they stood", row(k, append(slices.Clone(l), z)...), row(k, append([]api.Pat{z}, l...)...))
			wantTightAt(t, "as they stood in parts", row(k, l[0], row(k, z, l[1]), l[2]), row(k, z, l[0], l[1], l[2]))
			wantTightAt(t, "as they stood, one alone", row(k, seq(l[0]), l[1], seq(l[2])), row(k, l...))
			wantTightAt(t, "as they stood, one alone further down", row(k, l[0], seq(seq(l[1])), l[2]), row(k, l...))
			wantTightAt(t, "as they stood, one left of two", row(k, or(l[0], l[0]), l[1], or(l[2], l[2])), row(k, l...))
			wantTightAt(t, "parts of one form", row(k, seq(l[0], l[1]), seq(l[1], l[2])), row(k, seq(l[0], l[1]), seq(l[1], l[2])))
		})
	}
	wantTight(t, "not the same in another order", or(and(b, a), and(a, b)), or(and(b, a), and(a, b)))
	wantTight(t, "a POr by the first place", or(b, a, b, c, a), or(b, a, c))
	wantTight(t, "a POr by the first place, in parts", or(or(b, a), c, or(a, b)), or(b, a, c))
}

func TestTightMakesUnique(t *testing.T) {
	a, b, c := leaf(0), leaf(1), leaf(2)
	for _, p := range []api.Pat{b, not("n", "t001"), many("m", "t001", 2, 0), seq(c, b), and(b, c), seq(b, or(b, c)), {}, {K: 7}, {K: 7, L: []api.Pat{b}}} {
		want := tightOf(or(p, a, c))
		wantTightAt(t, "side by side", or(a, p, copied(p), c), want)
		wantTightAt(t, "thrice, side by side", or(p, p, p, a, c), want)
		wantTightAt(t, "apart", or(p, a, copied(p), c), want)
		wantTightAt(t, "at both ends", or(p, a, c, p), want)
		wantTightAt(t, "in a part of its kind", or(p, a, or(c, p)), want)
		wantTightAt(t, "in two parts of its kind", or(or(a, p), or(p, c)), want)
		wantTightAt(t, "as one alone", or(p, a, seq(p), c, and(seq(p))), want)
		wantTightAt(t, "one left", or(p, p), p)
		wantTightAt(t, "one left of three", or(p, copied(p), p), p)
		wantTightAt(t, "one left in parts", or(p, or(p, p), seq(p), and(or(p))), p)
	}
	wantTightAt(t, "the same when they are tight", or(and(b, a), and(a, b)), and(a, b))
	wantTightAt(t, "the same when they are tight, apart", or(seq(a, seq(b, c)), a, seq(seq(a, b), c)), or(a, seq(a, b, c)))
	wantTightAt(t, "the same when they are tight, further down", or(seq(a, and(c, b)), seq(a, and(b, or(c, c)))), seq(a, and(b, c)))
	wantTightAt(t, "other Vars", or(atom("a", "x"), atom("b", "x")), or(atom("a", "x"), atom("b", "x")))
	wantTightAt(t, "other counts", or(many("a", "x", 2, 2), many("a", "x", 1, 2), many("a", "x", 2, 0)), or(many("a", "x", 1, 2), many("a", "x", 2, 0), many("a", "x", 2, 2)))
	wantTightAt(t, "other kinds", or(not("a", "x"), atom("a", "x")), or(atom("a", "x"), not("a", "x")))
}

// TestTightOfOneLeft: when a POr has one part alone left, that is meant, and may be of the kind of the node above.
func TestTightOfOneLeft(t *testing.T) {
	a, b, c, d := leaf(0), leaf(1), leaf(2), leaf(3)
	for _, k := range rows {
		p := row(k, b, c)
		want := row(k, a, b, c, d)
		if k == api.POr {
			p = seq(or(b, c))
		}
		wantTightAt(t, "of the kind above, at the middle place", row(k, a, or(p, p), d), want)
		wantTightAt(t, "of the kind above, at the first place", row(k, or(row(k, a, b), row(k, a, b)), c, d), want)
		wantTightAt(t, "of the kind above, at the last place", row(k, a, b, or(row(k, c, d), seq(row(k, c, d)))), want)
		wantTightAt(t, "of the kind above, twice", row(k, or(row(k, a, b), row(k, a, b)), or(row(k, c, d), row(k, c, d))), want)
		wantTightAt(t, "of the kind above, in one alone", row(k, a, seq(and(or(p, p))), d), want)
		wantTightAt(t, "of another kind", row(k, a, or(row(otherThan(k, 4), b, c), row(otherThan(k, 4), b, c))), row(k, a, row(otherThan(k, 4), b, c)))
		wantTightAt(t, "all that is left", row(k, or(p, p)), tightOf(p))
	}
}

// TestTightAgainAndAgain has patterns in which each change lets the next one be.
func TestTightAgainAndAgain(t *testing.T) {
	a, b, c, d, e := leaf(0), leaf(1), leaf(2), leaf(3), leaf(4)
	wantTightAt(t, "steps", or(and(e, or(and(c, d), and(d, c))), and(or(and(d, e), and(e, d)), c)), and(c, d, e))
	wantTightAt(t, "steps", and(a, or(and(e, or(and(c, d), and(d, c))), and(or(and(d, e), and(e, d)), c)), b), and(a, b, c, d, e))
	wantTightAt(t, "steps", seq(or(seq(a, or(seq(b, c), seq(b, seq(c)))), seq(seq(a, b), c)), d), seq(a, b, c, d))
	p := c
	for deep := range 3 {
		x := leaf(10 + deep)
		p = or(and(p, x), and(x, p), and(seq(p), or(x, x)))
		wantTight(t, "doubled", p, and(append([]api.Pat{c}, leaves(14)[10:11+deep]...)...))
	}
	q := seq(a, b)
	for deep := range 14 {
		q = seq(or(q), leaf(2+deep))
		wantTight(t, "stairs", q, seq(leaves(3+deep)...))
	}
}

// wide has n nodes: a row, in it a row of one part, and leaves turned round.
func wide(k, n int) api.Pat {
	p := row(k, row(k, leaf(n-3)))
	for i := n - 4; i >= 0; i-- {
		p.L = append(p.L, leaf(i))
	}
	return p
}

// chain goes n nodes down to leaf, each the only part of the one above.
func chain(n int, leaf api.Pat) api.Pat {
	for i := range n - 1 {
		leaf = row(rows[i%3], leaf)
	}
	return leaf
}

func TestTightOfManyNodes(t *testing.T) {
	for _, k := range rows {
		for _, n := range []int{3, 4, api.MaxNodes - 1, api.MaxNodes, api.MaxNodes + 1, 100, 2 * api.MaxNodes, 255, 256} {
			p := wide(k, n)
			if pat.Size(p) != n {
				t.Fatalf("%d nodes, not %d", pat.Size(p), n)
			}
			wantTight(t, fmt.Sprint(n, " nodes"), p, tightOf(p))
			if got := canon.Tight(p); n > 3 && (got.K != k || len(got.L) != n-2 || anyLoose(got)) {
				t.Errorf("Tight of %d nodes: %s", n, short(said(got)))
			}
		}
		for _, n := range []int{257, 258, 300, 1000, 10000} {
			wantTight(t, fmt.Sprint(n, " nodes"), wide(k, n), wide(k, n))
		}
	}
	l := make([]api.Pat, 4*api.MaxNodes-1)
	wantTight(t, "just as many parts as may be", or(l...), api.Pat{})
	wantTight(t, "one part more", or(append(l, api.Pat{})...), or(append(l, api.Pat{})...))
	deep := seq(append(leaves(4*api.MaxNodes-10), chain(9, leaf(300)))...)
	wantTight(t, "just as many, some of them deeper", deep, seq(append(leaves(4*api.MaxNodes-10), leaf(300))...))
	deep.L = append(deep.L, chain(1, leaf(301)))
	wantTight(t, "one more, some of them deeper", deep, deep)
}

func TestTightOfDeepOnes(t *testing.T) {
	for _, x := range []api.Pat{leaf(0), {}, {K: 7}} {
		for _, n := range []int{2, api.MaxDeep - 1, api.MaxDeep, api.MaxDeep + 1, 20, 31, 32} {
			if p := chain(n, x); pat.Deep(p) != n {
				t.Fatalf("%d deep, not %d", pat.Deep(p), n)
			}
			wantTight(t, fmt.Sprint(n, " deep"), chain(n, x), x)
		}
		for _, n := range []int{33, 34, 64, 200, 300} {
			wantTight(t, fmt.Sprint(n, " deep"), chain(n, x), chain(n, x))
		}
	}
	for _, k := range rows {
		for _, m := range []int{2, 32} {
			p, want := leaf(m), leaves(m+1)
			for i := m - 1; i > 0; i-- {
				p = row(k, leaf(i), p)
			}
			wantTight(t, "stairs", p, row(k, want[1:]...))
			over := row(k, leaf(0), p)
			if m < 32 {
				wantTight(t, "stairs", over, row(k, want...))
			} else {
				wantTight(t, "stairs that are too deep", over, over)
				wantTight(t, "too deep at the first place", row(k, p, leaf(0)), row(k, p, leaf(0)))
				wantTight(t, "too deep and wide", row(k, append(leaves(300), p)...), row(k, append(leaves(300), p)...))
			}
		}
	}
}

// TestTightOfWrongOnes has what can't be: only rows change, and of them only where the words say so.
func TestTightOfWrongOnes(t *testing.T) {
	a, b, c := leaf(0), leaf(1), leaf(2)
	wantTight(t, "the zero pattern", api.Pat{}, api.Pat{})
	wantTight(t, "an empty list", api.Pat{L: []api.Pat{}}, api.Pat{})
	for _, k := range noRows {
		full := api.Pat{K: k, Var: "V", Type: "\xff", Lo: math.MinInt, Hi: math.MaxInt}
		wantTightAt(t, "no row", full, full)
		wantTightAt(t, "one part alone", row(k, a), row(k, a))
		wantTightAt(t, "one part alone of its own kind", row(k, row(k, b, a)), row(k, row(k, b, a)))
		wantTightAt(t, "parts of its own kind", row(k, a, row(k, c, b), row(k)), row(k, a, row(k, c, b), row(k)))
		wantTightAt(t, "the same part twice, and not sorted", row(k, b, b, a), row(k, b, b, a))
		wantTightAt(t, "loose parts", row(k, and(b, a), or(c, c), seq(c, seq(a, b))), row(k, and(a, b), c, seq(c, a, b)))
	}
	for _, k := range rows {
		full := api.Pat{K: k, Var: "V", Type: "\xff", Lo: math.MinInt, Hi: math.MaxInt, L: []api.Pat{a, b}}
		wantTight(t, "a row with all fields", full, full)
		in := row(k, full, c)
		wantTight(t, "a part with all fields gives way", in, row(k, a, b, c))
		in = api.Pat{K: k, Var: "W", Type: "T", Lo: 5, Hi: -5, L: []api.Pat{full, c}}
		wantTight(t, "a row with all fields takes its place", in, api.Pat{K: k, Var: "W", Type: "T", Lo: 5, Hi: -5, L: []api.Pat{a, b, c}})
		full.L = full.L[:1]
		wantTight(t, "a row with all fields and one part", full, a)
		full.L = nil
		wantTight(t, "a row with all fields and no part", full, full)
		wantTight(t, "one with all fields and no part as a part", row(k, a, full), row(k, a, full))
		wantTight(t, "that alone", row(k, full), full)
	}
	x, y := api.Pat{K: api.PSeq, Var: "x", L: []api.Pat{a, b}}, api.Pat{K: api.PSeq, Var: "y", L: []api.Pat{a, b}}
	wantTight(t, "a Var of a row tells them apart", or(y, x, y), or(y, x))
	wantTight(t, "names that are none", and(atom("É", ""), atom("", "\x00"), atom("", "")), and(atom("É", ""), atom("", ""), atom("", "\x00")))
}

func TestTightAsTheWordsSay(t *testing.T) {
	r := rand.New(rand.NewSource(161))
	changed, left, lost := 0, 0, 0
	for i := range 6000 {
		p := wild(r, 1+i%6)
		if pat.Size(p) > 4*api.MaxNodes {
			continue
		}
		want := tightOf(p)
		wantTight(t, "at random", p, want)
		if anyLoose(want) {
			t.Errorf("Tight of %s is loose", said(p))
		}
		switch {
		case said(want) == said(p):
			left++
		case pat.Size(want) < pat.Size(p):
			lost++
		default:
			changed++
		}
	}
	if changed < 100 || left < 500 || lost < 2000 {
		t.Errorf("changed %d, left %d, lost %d", changed, left, lost)
	}
}

// small has all patterns of leaves that are n deep or less, with up to most parts in each row.
func small(n, most int) []api.Pat {
	l := []api.Pat{atom("a", "x"), atom("b", "x"), atom("c", "w")}
	if n == 1 {
		return l
	}
	parts := [][]api.Pat{nil}
	below := small(n-1, most)
	for from, i := 0, 0; i < most; i++ {
		to := len(parts)
		for _, p := range parts[from:to] {
			for _, x := range below {
				parts = append(parts, append(slices.Clone(p), x))
			}
		}
		from = to
	}
	for _, k := range rows {
		for _, p := range parts {
			l = append(l, row(k, p...))
		}
	}
	return l
}

func TestTightOfAllSmallOnes(t *testing.T) {
	l := append(small(3, 2), small(2, 4)...)
	if len(l) < 5000 {
		t.Errorf("only %d", len(l))
	}
	for _, p := range l {
		wantTight(t, "small", p, tightOf(p))
	}
	for _, p := range small(2, 2) {
		for _, x := range small(2, 2) {
			for _, k := range rows {
				wantTight(t, "three parts", row(k, p, x, p), tightOf(row(k, p, x, p)))
				wantTight(t, "parts of parts", row(k, x, row(7-k, p, x)), tightOf(row(k, x, row(7-k, p, x))))
			}
		}
	}
}

// TestTightOfTightParts: a node's answer hangs on what its parts mean, not on how they are told.
func TestTightOfTightParts(t *testing.T) {
	r := rand.New(rand.NewSource(162))
	for i := range 3000 {
		p := wild(r, 2+i%5)
		if pat.Size(p) > 4*api.MaxNodes {
			continue
		}
		want := said(canon.Tight(p))
		q := copied(p)
		for i, x := range q.L {
			if r.Intn(3) > 0 {
				q.L[i] = canon.Tight(x)
			}
		}
		if got := said(canon.Tight(q)); got != want {
			t.Errorf("%s: %s, and with tight parts %s", said(p), want, got)
		}
	}
}

// places has those of p's parts that ok tells.
func places(p *api.Pat, ok func(i int) bool) []int {
	var l []int
	for i := range p.L {
		if ok(i) {
			l = append(l, i)
		}
	}
	return l
}

// stepped does the first rule that there is, at one place, to one node below which none is left to do; it tells whether there was one.
func stepped(r *rand.Rand, p *api.Pat) bool {
	for _, i := range r.Perm(len(p.L)) {
		if stepped(r, &p.L[i]) {
			return true
		}
	}
	own := places(p, func(i int) bool { return isRow(p.K) && p.L[i].K == p.K && len(p.L[i].L) > 0 })
	again := places(p, func(i int) bool {
		return p.K == api.POr && slices.ContainsFunc(p.L[:i], func(x api.Pat) bool { return said(x) == said(p.L[i]) })
	})
	less := places(p, func(i int) bool {
		return (p.K == api.PAnd || p.K == api.POr) && i > 0 && order.Form(p.L[i-1], p.L[i]) > 0
	})
	switch {
	case len(own) > 0:
		i := pick(r, own)
		p.L = slices.Concat(p.L[:i], p.L[i].L, p.L[i+1:])
	case isRow(p.K) && len(p.L) == 1:
		*p = p.L[0]
	case len(again) > 0:
		i := pick(r, again)
		p.L = slices.Concat(p.L[:i], p.L[i+1:])
	case len(less) > 0:
		i := pick(r, less)
		p.L[i-1], p.L[i] = p.L[i], p.L[i-1]
	default:
		return false
	}
	return true
}

// TestTightStepByStep does the rules one at a time from the leaves on, at any places: where it ends does not hang on these.
func TestTightStepByStep(t *testing.T) {
	r := rand.New(rand.NewSource(163))
	most := 0
	for i := range 2000 {
		p := wild(r, 1+i%5)
		if pat.Size(p) > 4*api.MaxNodes {
			continue
		}
		q := copied(p)
		n := 0
		for stepped(r, &q) {
			n++
		}
		most = max(most, n)
		if got := canon.Tight(p); said(got) != said(q) {
			t.Errorf("Tight of %s: %s, want %s", said(p), said(got), said(q))
		}
	}
	if most < 10 {
		t.Errorf("at most %d steps", most)
	}
}

// rowsOf has all rows of leaves that a pattern is of: those of a PSeq one behind the other, of a PAnd mixed, of a POr those of each.
func rowsOf(p api.Pat) map[string]bool {
	if !isRow(p.K) {
		return map[string]bool{said(p) + ";": true}
	}
	all := map[string]bool{}
	if p.K != api.POr {
		all[""] = true
	}
	for _, x := range p.L {
		below := rowsOf(x)
		if p.K == api.POr {
			maps.Copy(all, below)
			continue
		}
		more := map[string]bool{}
		for a := range all {
			for b := range below {
				l := []string{a + b}
				if p.K == api.PAnd {
					l = mixed(strings.SplitAfter(a, ";"), strings.SplitAfter(b, ";"))
				}
				for _, s := range l {
					more[s] = true
				}
			}
		}
		all = more
	}
	return all
}

// mixed has all rows in which the words of both are, each in its order. The last of both is empty.
func mixed(a, b []string) []string {
	if len(a) == 1 || len(b) == 1 {
		return []string{strings.Join(a, "") + strings.Join(b, "")}
	}
	var l []string
	for _, s := range mixed(a[1:], b) {
		l = append(l, a[0]+s)
	}
	for _, s := range mixed(a, b[1:]) {
		l = append(l, b[0]+s)
	}
	return l
}

func partsBelowNoRow(p api.Pat) bool {
	return !isRow(p.K) && len(p.L) > 0 || slices.ContainsFunc(p.L, partsBelowNoRow)
}

// TestTightMeansTheSame: what a pattern is of, it is of when it is tight.
func TestTightMeansTheSame(t *testing.T) {
	r := rand.New(rand.NewSource(164))
	asked := 0
	for asked < 800 {
		p := wild(r, 4)
		if pat.Size(p) > 14 || !anyLoose(p) || partsBelowNoRow(p) {
			continue
		}
		asked++
		a, b := rowsOf(p), rowsOf(canon.Tight(p))
		if fmt.Sprint(a) != fmt.Sprint(b) {
			t.Errorf("%s is of %v, and tight of %v", said(p), a, b)
		}
	}
}

// P16.2

// spoilConds changes all that the lists hold; what shares memory with them shows that.
func spoilConds(l []api.Expr) {
	for i := range l {
		spoilConds(l[i].L)
		l[i] = api.Expr{K: 99, Var: "spoilt"}
	}
	clear(l[len(l):cap(l)])
}

func condLists(l []api.Expr) []*api.Expr {
	var all []*api.Expr
	if len(l) > 0 {
		all = append(all, &l[0])
	}
	for _, x := range l {
		all = append(all, condLists(x.L)...)
	}
	return all
}

// wantApart asks whether lists of an answer share memory with each other.
func wantApart(t *testing.T, what string, q api.Query) {
	t.Helper()
	seen := map[any]int{}
	for _, x := range listsOf(q.P.L) {
		seen[x]++
	}
	for _, x := range condLists(q.Where) {
		seen[x]++
	}
	for _, n := range seen {
		if n > 1 {
			t.Errorf("%s: two lists of the answer share memory", what)
		}
	}
}

// wantQuery asks for the form and the Vars, and whether what is handed in is left alone.
func wantQuery(t *testing.T, what string, q, want api.Query, vars ...string) {
	t.Helper()
	was, asked := saidQuery(q), saidQuery(want)
	got, l, e := canon.Query(q)
	if e != api.OK || saidQuery(got) != asked || !slices.Equal(l, vars) {
		t.Errorf("%s: Query of %s: %s, %v, %d, want %s, %v", what, short(was), short(saidQuery(got)), l, e, short(asked), vars)
	}
	if form := canon.Is(q); form != (was == asked) {
		t.Errorf("%s: Is of %s: %v", what, short(was), form)
	}
	if !canon.Is(got) || !canon.Same(q, got) || !canon.Same(got, q) || !canon.Same(q, q) {
		t.Errorf("%s: Is or Same of the form of %s", what, short(was))
	}
	if saidQuery(q) != was || saidQuery(got) != asked {
		t.Errorf("%s: Query, Is or Same changed what it was given, %s", what, short(was))
	}
	wantApart(t, what, got)
	other, m, _ := canon.Query(q)
	spoil(got.P.L)
	spoilConds(got.Where)
	for i := range got.Items {
		got.Items[i] = api.Item{Name: "spoilt"}
	}
	for i := range l {
		l[i] = "spoilt"
	}
	if saidQuery(q) != was || saidQuery(other) != asked || !slices.Equal(m, vars) {
		t.Errorf("%s: the answer shares memory with what was given, or with another answer", what)
	}
}

func TestQueryExamples(t *testing.T) {
	a, b, c := atom("a", "buy"), atom("b", "buy"), atom("c", "sell")
	wantQuery(t, "the document's", api.Query{P: and(c, b)}, api.Query{P: and(atom("v0", "buy"), atom("v1", "sell"))}, "b", "c")
	wantQuery(t, "the chapter's", api.Query{P: or(atom("b", "b"), atom("a", "a"))}, api.Query{P: or(atom("v0", "a"), atom("v1", "b"))}, "a", "b")
	q := api.Query{P: and(c, b, a), Where: []api.Expr{less("a", "c"), is("b", 1), is("b", 1)}}
	want := api.Query{P: and(atom("v0", "buy"), atom("v1", "buy"), atom("v2", "sell")), Where: []api.Expr{is("v0", 1), less("v1", "v2")}}
	wantQuery(t, "one with conditions", q, want, "b", "a", "c")
}

// full has all clauses, and nothing in it is as its form has it.
func full() api.Query {
	return api.Query{
		P:      seq(atom("p", "sell"), not("n", "sell"), or(and(many("m", "buy", 1, 0), atom("q", "buy")), and(atom("q", "buy"), many("m", "buy", 1, 0)), atom("o", "buy"))),
		Where:  []api.Expr{less("q", "p"), op(api.XNot, less("m", "o")), is("o", 2), less("q", "p"), is("n", 2)},
		Key:    "p",
		Mode:   api.MNear,
		Within: 10,
		Items:  []api.Item{item("z", api.IFirst, "q", "p"), item("p", api.ILast, "m", "q"), item("m", api.ICount, "p", ""), item("a", api.ISum, "o", "x")},
	}
}

func fullForm() api.Query {
	return api.Query{
		P:      seq(atom("v0", "sell"), not("v1", "sell"), or(atom("v2", "buy"), and(atom("v3", "buy"), many("v4", "buy", 1, 0)))),
		Where:  []api.Expr{is("v1", 2), is("v2", 2), less("v3", "v0"), op(api.XNot, less("v4", "v2"))},
		Key:    "p",
		Mode:   api.MNear,
		Within: 10,
		Items:  []api.Item{item("z", api.IFirst, "v3", "p"), item("p", api.ILast, "v4", "q"), item("m", api.ICount, "v0", ""), item("a", api.ISum, "v2", "x")},
	}
}

func TestQueryWithAllClauses(t *testing.T) {
	vars := []string{"p", "n", "o", "q", "m"}
	wantQuery(t, "all clauses", full(), fullForm(), vars...)
	wantQuery(t, "the form itself", fullForm(), fullForm(), numbered(5)...)
	q, want := full(), fullForm()
	q.Key, want.Key, q.Mode, want.Mode, q.Within, want.Within = "", "", api.MStrict, api.MStrict, api.MaxWithin, api.MaxWithin
	wantQuery(t, "other clauses", q, want, vars...)
	q.Where, want.Where = nil, nil
	wantQuery(t, "no conditions", q, want, vars...)
	q.Where, q.Items, want.Items = []api.Expr{}, []api.Item{}, nil
	wantQuery(t, "no items", q, want, vars...)
	q.Mode, q.Within, want.Mode, want.Within = 0, 0, 0, 0
	wantQuery(t, "the pattern alone", q, want, vars...)
}

func TestQueryOfOneVar(t *testing.T) {
	for _, v := range []string{"a", "v0", "v1", "v", "v00", strings.Repeat("n", api.MaxName)} {
		for i, p := range []api.Pat{atom("", "buy"), many("", "buy", 1, 0), not("", "buy")} {
			p.Var = v
			want := p
			want.Var = "v0"
			q := api.Query{P: p, Where: []api.Expr{is(v, 1)}, Items: []api.Item{item("n", 1, v, "x")}}
			wantQuery(t, fmt.Sprint("one Var ", i), q, api.Query{P: want, Where: []api.Expr{is("v0", 1)}, Items: []api.Item{item("n", 1, "v0", "x")}}, v)
		}
		wantQuery(t, "one Var again and again", api.Query{P: seq(atom(v, "b"), and(atom(v, "b"), atom(v, "a")))}, api.Query{P: seq(atom("v0", "b"), and(atom("v0", "a"), atom("v0", "b")))}, v)
	}
	wantQuery(t, "one left", api.Query{P: or(atom("a", "buy"), atom("a", "buy"))}, api.Query{P: atom("v0", "buy")}, "a")
}

func TestQueryOfManyVars(t *testing.T) {
	for _, n := range []int{2, 9, 10, 11, 12, 40, api.MaxNodes - 1} {
		var p, want api.Pat
		p.K, want.K = api.PAnd, api.PAnd
		var vars []string
		q := api.Query{}
		for i := range n {
			p.L = append(p.L, atom(fmt.Sprint("w", i), fmt.Sprintf("t%03d", n-i)))
			want.L = append(want.L, atom(fmt.Sprint("v", i), fmt.Sprintf("t%03d", i+1)))
			vars = append(vars, fmt.Sprint("w", n-1-i))
		}
		last := fmt.Sprint("v", n-1)
		q.Where = []api.Expr{is("w0", 1), is(vars[0], 2), is(vars[1], 3)}
		q.Items = []api.Item{item("l", 2, "w0", "x"), item("f", 1, vars[0], "x")}
		form := api.Query{P: want, Items: []api.Item{item("l", 2, last, "x"), item("f", 1, "v0", "x")}}
		form.Where = condsOf([]api.Expr{is(last, 1), is("v0", 2), is("v1", 3)})
		q.P = p
		wantQuery(t, fmt.Sprint(n, " Vars"), q, form, vars...)
	}
	// By bytes v10 is ahead of v2.
	var l []api.Pat
	for i := range 12 {
		l = append(l, atom(fmt.Sprintf("w%02d", i), "t"))
	}
	q := api.Query{P: seq(l...), Where: []api.Expr{is("w02", 1), is("w09", 1), is("w10", 1), is("w11", 1), is("w01", 1)}}
	got, _, _ := canon.Query(q)
	for i, v := range []string{"v1", "v10", "v11", "v2", "v9"} {
		if len(got.Where) != 5 || got.Where[i].L[0].Var != v {
			t.Errorf("conditions of more than ten Vars: %s", saidQuery(got))
		}
	}
}

func TestQueryOfVarsAtSeveralPlaces(t *testing.T) {
	a, b, c := atom("a", "x"), atom("b", "y"), atom("c", "z")
	v0, v1, v2 := atom("v0", "x"), atom("v1", "y"), atom("v2", "z")
	wantQuery(t, "in each part of a POr", api.Query{P: or(seq(c, a), seq(b, a), seq(a, c)), Where: []api.Expr{less("b", "c"), less("a", "a")}},
		api.Query{P: or(seq(v0, atom("v1", "z")), seq(atom("v2", "y"), v0), seq(atom("v1", "z"), v0)), Where: []api.Expr{less("v0", "v0"), less("v2", "v1")}}, "a", "c", "b")
	wantQuery(t, "in a POr within a PSeq", api.Query{P: seq(a, or(and(c, b), b, and(b, c)))}, api.Query{P: seq(v0, or(v1, and(v1, v2)))}, "a", "b", "c")
	wantQuery(t, "first as a PNot", api.Query{P: seq(c, not("b", "y"), b)}, api.Query{P: seq(atom("v0", "z"), not("v1", "y"), atom("v1", "y"))}, "c", "b")
	wantQuery(t, "with one form", api.Query{P: or(seq(atom("b", "x"), a), seq(a, atom("b", "x")))}, api.Query{P: or(seq(v0, atom("v1", "x")), seq(atom("v1", "x"), v0))}, "b", "a")
}

// TestQueryOfNumberedVars has Vars that have names of the form's already, in other places.
func TestQueryOfNumberedVars(t *testing.T) {
	types := []string{"t0", "t1", "t2", "t3"}
	want := api.Query{P: seq(atom("v0", "t0"), atom("v1", "t1"), atom("v2", "t2"), atom("v3", "t3")), Where: []api.Expr{is("v0", 0), is("v1", 1), is("v2", 2), is("v3", 3)}}
	mixed := want
	mixed.P = and(want.P.L...)
	for i := range 4 {
		want.Items = append(want.Items, item(fmt.Sprint("n", i), 1, fmt.Sprint("v", i), "x"))
	}
	permuted(4, func(places []int) {
		var q api.Query
		var vars []string
		q.P.K = api.PSeq
		for i, j := range places {
			v := fmt.Sprint("v", j)
			q.P.L = append(q.P.L, atom(v, types[i]))
			q.Where = append(q.Where, is(v, int64(i)))
			q.Items = append(q.Items, item(fmt.Sprint("n", i), 1, v, "x"))
			vars = append(vars, v)
		}
		wantQuery(t, "turned names", q, want, vars...)
		q.Where = []api.Expr{q.Where[2], q.Where[0], q.Where[3], q.Where[1]}
		wantQuery(t, "turned names and conditions", q, want, vars...)
		q.P = and(pats(q.P.L, places...)...)
		q.Items = nil
		wantQuery(t, "turned names and parts", q, mixed, vars...)
	})
}

// TestQueryOfOtherNames: what is named in conditions and items but not in the pattern stays, also where the form has that name.
func TestQueryOfOtherNames(t *testing.T) {
	p, want := seq(atom("a", "x"), atom("b", "y")), seq(atom("v0", "x"), atom("v1", "y"))
	for _, v := range []string{"c", "x", "y", "v0", "v1", "v2", "v9", "ab"} {
		q := api.Query{P: p, Where: []api.Expr{op(api.XNe, field("b", v), field(v, "b")), op(api.XNe, field("a", "a"), field(v, v))}, Key: v, Items: []api.Item{item("a", api.ISum, v, "a"), item("v0", api.ISum, "a", v), item("b", api.ICount, v, "")}}
		form := api.Query{P: want, Key: v, Items: []api.Item{item("a", api.ISum, v, "a"), item("v0", api.ISum, "v0", v), item("b", api.ICount, v, "")}}
		form.Where = []api.Expr{op(api.XNe, field("v0", "a"), field(v, v)), op(api.XNe, field("v1", v), field(v, "b"))}
		wantQuery(t, "others", q, form, "a", "b")
	}
	wantQuery(t, "none of the pattern's", api.Query{P: p, Where: []api.Expr{is("z", 1), is("y", 1)}}, api.Query{P: want, Where: []api.Expr{is("y", 1), is("z", 1)}}, "a", "b")
}

func TestQueryOfConditions(t *testing.T) {
	p, form := seq(atom("b", "x"), atom("a", "y"), atom("c", "z")), seq(atom("v0", "x"), atom("v1", "y"), atom("v2", "z"))
	ask := func(what string, l, want []api.Expr) {
		t.Helper()
		wantQuery(t, what, api.Query{P: p, Where: l}, api.Query{P: form, Where: want}, "b", "a", "c")
	}
	some, sorted := []api.Expr{is("a", 1), is("b", 1), is("c", 1), less("a", "b"), less("b", "a")}, []api.Expr{is("v0", 1), is("v1", 1), is("v2", 1), less("v0", "v1"), less("v1", "v0")}
	permuted(len(some), func(places []int) {
		var l []api.Expr
		for _, i := range places {
			l = append(l, some[i])
		}
		ask("each order", l, sorted)
		ask("one again, side by side", append([]api.Expr{l[0]}, l...), sorted)
		ask("some again, apart", append(l, l[2], l[0]), sorted)
	})
	ask("sorted by the new names", []api.Expr{is("a", 1), is("b", 1)}, []api.Expr{is("v0", 1), is("v1", 1)})
	ask("sorted by the new names", []api.Expr{is("b", 1), is("a", 1)}, []api.Expr{is("v0", 1), is("v1", 1)})
	ask("parts stay as they stand", []api.Expr{op(api.XOr, is("c", 1), is("b", 1), is("b", 1))}, []api.Expr{op(api.XOr, is("v2", 1), is("v0", 1), is("v0", 1))})
	ask("turned round within is another one", []api.Expr{op(api.XEq, num(1), field("a", "x")), is("a", 1)}, []api.Expr{op(api.XEq, num(1), field("v1", "x")), is("v1", 1)})
	ask("the same when they are renamed", []api.Expr{is("b", 1), is("v0", 1)}, []api.Expr{is("v0", 1)})
	ask("the same when they are renamed, apart", []api.Expr{is("v0", 1), is("c", 2), is("b", 1), is("v2", 2)}, []api.Expr{is("v0", 1), is("v2", 2)})
	ask("the same and others", []api.Expr{less("a", "v0"), less("v1", "b"), less("b", "a"), less("v1", "v0")}, []api.Expr{less("v0", "v1"), less("v1", "v0")})
	ask("constants", []api.Expr{num(2), num(1), num(2)}, []api.Expr{num(1), num(2)})
	var l, want []api.Expr
	for i := range int64(api.MaxWhere) {
		l = append(l, is("c", api.MaxWhere-i))
		want = append(want, is("v2", i+1))
	}
	ask("as many as may be", l, want)
	most := ors(api.MaxExpr - 1)
	ask("as many nodes as may be", []api.Expr{most}, []api.Expr{most})
}

func TestQueryOfTheGreatestPatterns(t *testing.T) {
	p := leaf(1)
	for i := range api.MaxDeep - 1 {
		p = row(rows[i%3], leaf(i+2), p)
	}
	q := api.Query{P: p}
	want, vars := formOfQuery(q)
	wantQuery(t, "as deep as may be", q, want, vars...)
	if _, l, e := canon.Query(api.Query{P: row(rows[(api.MaxDeep-1)%3], leaf(99), p)}); e != api.ErrLong || len(l) != 0 {
		t.Errorf("Query of one that is too deep: %d", e)
	}
	var l []api.Pat
	for i := range api.MaxNodes - 1 {
		l = append(l, leaf(99-i))
	}
	for _, k := range rows {
		q := api.Query{P: row(k, l...)}
		want, vars := formOfQuery(q)
		wantQuery(t, "as many nodes as may be", q, want, vars...)
		if _, _, e := canon.Query(api.Query{P: row(k, append(l, leaf(0))...)}); e != api.ErrLong {
			t.Errorf("Query of one with too many nodes: %d", e)
		}
	}
}

// wantRefused asks all calls of one that is not right.
func wantRefused(t *testing.T, what string, q api.Query, want api.Errno) {
	t.Helper()
	was := saidQuery(q)
	got, vars, e := canon.Query(q)
	if e != want || saidQuery(got) != saidQuery(api.Query{}) || len(vars) != 0 {
		t.Errorf("%s: Query of %s: %s, %v, %d, want the zero query and %d", what, short(was), short(saidQuery(got)), vars, e, want)
	}
	if canon.Is(q) {
		t.Errorf("%s: Is of %s", what, short(was))
	}
	for _, other := range []api.Query{q, copiedQuery(q), {}, full(), fullForm(), {P: leaf(0)}, got} {
		if canon.Same(q, other) || canon.Same(other, q) {
			t.Errorf("%s: Same of %s and %s", what, short(was), short(saidQuery(other)))
		}
	}
	if saidQuery(q) != was {
		t.Errorf("%s: %s is changed", what, short(was))
	}
}

func TestQueryRefuses(t *testing.T) {
	a, b := leaf(0), leaf(1)
	wantRefused(t, "the zero query", api.Query{}, api.ErrArg)
	wantRefused(t, "the zero query with empty lists", api.Query{P: api.Pat{L: []api.Pat{}}, Where: []api.Expr{}, Items: []api.Item{}}, api.ErrArg)
	for what, p := range map[string]api.Pat{
		"one part": seq(a), "no parts": or(), "parts of the own kind": seq(a, seq(a, b)), "a Type that is no name": atom("a", "A"), "a Var that is no name": atom("", "a"), "no kind": {K: 7, Var: "a", Type: "a"},
		"a PMany of one": many("a", "a", 1, 1), "a row with a Var": {K: api.PSeq, Var: "a", L: []api.Pat{a, b}}, "one part alone further down": seq(a, and(b)), "an atom with parts": {K: api.PAtom, Var: "a", Type: "a", L: []api.Pat{a}},
	} {
		q := full()
		q.P = p
		wantRefused(t, what, q, api.ErrArg)
		wantRefused(t, what+", alone", api.Query{P: p}, api.ErrArg)
	}
	for what, change := range map[string]func(q *api.Query){
		"too many nodes":         func(q *api.Query) { q.P = seq(leaves(api.MaxNodes)...) },
		"too deep":               func(q *api.Query) { q.P = chain(api.MaxDeep+1, a) },
		"a deep one further on":  func(q *api.Query) { q.P = seq(q.P, chain(40, a)) },
		"too many conditions":    func(q *api.Query) { q.Where = slices.Repeat([]api.Expr{num(1)}, api.MaxWhere+1) },
		"too many items":         func(q *api.Query) { q.Items = make([]api.Item, api.MaxItems+1) },
		"a condition too great":  func(q *api.Query) { q.Where = []api.Expr{op(api.XOr, make([]api.Expr, api.MaxExpr)...)} },
		"conditions too great":   func(q *api.Query) { q.Where = []api.Expr{ors(50), ors(50)} },
		"one error ahead of one": func(q *api.Query) { q.Where, q.Mode = make([]api.Expr, api.MaxWhere+1), 3 },
	} {
		q := full()
		change(&q)
		wantRefused(t, what, q, api.ErrLong)
	}
	for what, change := range map[string]func(q *api.Query){
		"a condition that is not right": func(q *api.Query) { q.Where[1] = op(api.XNot) },
		"the zero condition":            func(q *api.Query) { q.Where = []api.Expr{{}} },
		"a condition that is an XAnd":   func(q *api.Query) { q.Where[2] = op(api.XAnd, num(1), num(2)) },
		"no name as Key":                func(q *api.Query) { q.Key = "K" },
		"a Mode below":                  func(q *api.Query) { q.Mode = -1 },
		"a Mode above":                  func(q *api.Query) { q.Mode = 3 },
		"a Within below":                func(q *api.Query) { q.Within = -1 },
		"a Within above":                func(q *api.Query) { q.Within = api.MaxWithin + 1 },
		"the greatest Within":           func(q *api.Query) { q.Within = math.MaxInt64 },
		"the zero item":                 func(q *api.Query) { q.Items[1] = api.Item{} },
		"two items of one Name":         func(q *api.Query) { q.Items[1].Name = q.Items[0].Name },
		"an item's Var":                 func(q *api.Query) { q.Items[0].Var = "" },
		"an item's kind":                func(q *api.Query) { q.Items[0].K = 5 },
		"a count with a Field":          func(q *api.Query) { q.Items[2].Field = "x" },
	} {
		for _, q := range []api.Query{full(), fullForm()} {
			q = copiedQuery(q)
			change(&q)
			wantRefused(t, what, q, api.ErrArg)
		}
	}
}

// TestQueryDoesNotAskMore: what is not well made has a form, too.
func TestQueryDoesNotAskMore(t *testing.T) {
	wantQuery(t, "a PNot first", api.Query{P: seq(not("n", "x"), atom("a", "x"))}, api.Query{P: seq(not("v0", "x"), atom("v1", "x"))}, "n", "a")
	wantQuery(t, "PNots in a PAnd", api.Query{P: and(not("n", "x"), atom("a", "x"))}, api.Query{P: and(atom("v0", "x"), not("v1", "x"))}, "a", "n")
	wantQuery(t, "a Var twice", api.Query{P: and(atom("a", "y"), atom("a", "x"))}, api.Query{P: and(atom("v0", "x"), atom("v0", "y"))}, "a")
	wantQuery(t, "conditions of no bool", api.Query{P: atom("a", "x"), Where: []api.Expr{field("a", "x"), num(1)}}, api.Query{P: atom("v0", "x"), Where: []api.Expr{num(1), field("v0", "x")}}, "a")
}

func TestIs(t *testing.T) {
	form := api.Query{P: seq(atom("v0", "x"), and(atom("v1", "x"), atom("v2", "y"), or(atom("v3", "x"), seq(atom("v4", "y"), atom("v5", "x"))))), Where: []api.Expr{is("v1", 1), is("v2", 1), less("v0", "v5")}, Items: []api.Item{item("b", 1, "v4", "x"), item("a", 1, "v2", "x")}}
	if !canon.Is(form) || !canon.Is(fullForm()) || canon.Is(full()) {
		t.Error("Is of forms")
	}
	with := func(change func(q *api.Query)) api.Query {
		q := copiedQuery(form)
		change(&q)
		return q
	}
	swap := func(l []api.Pat, i, j int) { l[i], l[j] = l[j], l[i] }
	for what, q := range map[string]api.Query{
		"one name":                      renamed(form, []string{"v5"}, []string{"a"}),
		"one name that is a number":     renamed(form, []string{"v5"}, []string{"v6"}),
		"the first name":                renamed(form, []string{"v0"}, []string{"v00"}),
		"two names":                     renamed(form, []string{"v1", "v2"}, []string{"v2", "v1"}),
		"numbers from 1":                renamed(form, numbered(6), numbered(7)[1:]),
		"the order of a PAnd":           with(func(q *api.Query) { swap(q.P.L[1].L, 0, 1) }),
		"the order of a POr":            with(func(q *api.Query) { swap(q.P.L[1].L[2].L, 0, 1) }),
		"the order of conditions":       with(func(q *api.Query) { q.Where[0], q.Where[1] = q.Where[1], q.Where[0] }),
		"a condition twice":             with(func(q *api.Query) { q.Where = append(q.Where, q.Where[2]) }),
		"a POr's part twice":            with(func(q *api.Query) { x := &q.P.L[1].L[2]; x.L = append(x.L, x.L[1]) }),
		"a POr in place of its one":     {P: or(atom("v0", "x"), atom("v0", "x"))},
		"the order of one form's names": with(func(q *api.Query) { q.P = seq(atom("v1", "x"), atom("v0", "x")) }),
	} {
		if canon.Is(q) {
			t.Errorf("Is of one that differs from its form in %s", what)
		}
	}
	for what, q := range map[string]api.Query{
		"the order of items":        with(func(q *api.Query) { q.Items[0], q.Items[1] = q.Items[1], q.Items[0] }),
		"an item's Name":            with(func(q *api.Query) { q.Items[0].Name = "z" }),
		"a Key":                     with(func(q *api.Query) { q.Key = "z" }),
		"fewer conditions":          with(func(q *api.Query) { q.Where = q.Where[1:] }),
		"another name in an item":   with(func(q *api.Query) { q.Items[0].Var = "z" }),
		"another name in Where":     with(func(q *api.Query) { q.Where[1].L[0].Var = "z" }),
		"the order of a PSeq":       with(func(q *api.Query) { q.P = seq(atom("v0", "y"), atom("v1", "x")) }),
		"parts of a PAnd, one form": with(func(q *api.Query) { q.P = and(atom("v0", "x"), atom("v1", "x")) }),
	} {
		if !canon.Is(q) {
			t.Errorf("Is of a form with %s changed", what)
		}
	}
}

func TestSame(t *testing.T) {
	base := api.Query{P: seq(atom("a", "x"), and(atom("b", "x"), atom("c", "y"), or(atom("d", "x"), seq(atom("e", "y"), atom("f", "x"))))), Where: []api.Expr{is("b", 1), is("c", 1), less("a", "f")}, Key: "k", Mode: 1, Within: 7, Items: []api.Item{item("q", 1, "e", "x"), item("p", 4, "c", "x")}}
	with := func(change func(q *api.Query)) api.Query {
		q := copiedQuery(base)
		change(&q)
		return q
	}
	swap := func(l []api.Pat, i, j int) { l[i], l[j] = l[j], l[i] }
	one := []api.Query{
		base, copiedQuery(base), renamed(base, []string{"a", "b", "c"}, []string{"c", "z", "a"}), renamed(base, []string{"a", "b", "c", "d", "e", "f"}, []string{"v5", "v4", "v3", "v2", "v1", "v0"}),
		with(func(q *api.Query) { swap(q.P.L[1].L, 0, 2) }), with(func(q *api.Query) { swap(q.P.L[1].L, 1, 2) }), with(func(q *api.Query) { swap(q.P.L[1].L[2].L, 0, 1) }), with(func(q *api.Query) { slices.Reverse(q.Where) }),
		with(func(q *api.Query) { q.Where = append(q.Where, q.Where...) }), with(func(q *api.Query) { x := &q.P.L[1].L[2]; x.L = append(x.L, copied(x.L[0])) }),
		with(func(q *api.Query) {
			x := q.P.L[1]
			q.P.L[1] = or(x, and(x.L[2], x.L[1], x.L[0]))
		}),
	}
	form, _, _ := canon.Query(base)
	one = append(one, form)
	others := []api.Query{
		with(func(q *api.Query) { q.Key = "" }), with(func(q *api.Query) { q.Mode = 2 }), with(func(q *api.Query) { q.Within = 8 }), with(func(q *api.Query) { slices.Reverse(q.Items) }), with(func(q *api.Query) { q.Items = q.Items[1:] }),
		with(func(q *api.Query) { q.Items[0].Name = "r" }), with(func(q *api.Query) { q.Items[0].Var = "f" }), with(func(q *api.Query) { q.Where = q.Where[1:] }), with(func(q *api.Query) { q.Where[0] = is("d", 1) }), with(func(q *api.Query) { q.Where[2] = less("f", "a") }),
		with(func(q *api.Query) { swap(q.P.L, 0, 1) }), with(func(q *api.Query) { swap(q.P.L[1].L[2].L[1].L, 0, 1) }), with(func(q *api.Query) { q.P.L[0].Type = "y" }), with(func(q *api.Query) { q.P.L[0].K = api.PNot }), with(func(q *api.Query) { q.P.K = api.POr }),
		with(func(q *api.Query) { q.P.L[1].L[2].L[0].Var = "f" }), with(func(q *api.Query) { q.Where[0] = is("z", 1) }), {P: base.P}, full(), fullForm(), {P: leaf(0)},
	}
	for i, a := range one {
		for j, b := range one {
			if !canon.Same(a, b) {
				t.Errorf("%d and %d of one form: %s, %s", i, j, saidQuery(a), saidQuery(b))
			}
		}
		for j, b := range others {
			if query.Check(b) != api.OK || canon.Same(a, b) || canon.Same(b, a) || !canon.Same(b, b) {
				t.Errorf("%d and %d of the others: %s, %s", i, j, saidQuery(a), saidQuery(b))
			}
		}
		if canon.Same(a, api.Query{}) || canon.Same(api.Query{}, a) {
			t.Errorf("Same of %s and the zero query", saidQuery(a))
		}
	}
	if !canon.Same(full(), fullForm()) || canon.Same(api.Query{}, api.Query{}) {
		t.Error("Same")
	}
	// Parts of one form stay as they stood, so the conditions tell these apart.
	x, y := and(atom("a", "x"), atom("b", "x")), and(atom("b", "x"), atom("a", "x"))
	if !canon.Same(api.Query{P: x}, api.Query{P: y}) || canon.Same(api.Query{P: x, Where: []api.Expr{is("a", 1)}}, api.Query{P: y, Where: []api.Expr{is("a", 1)}}) {
		t.Error("Same of parts of one form")
	}
}

// roomy has the patterns in lists with room behind them, in which others lie.
func roomy(l []api.Pat) []api.Pat {
	out := make([]api.Pat, len(l), len(l)+2)
	for i, p := range l {
		p.L = roomy(p.L)
		out[i] = p
	}
	copy(out[len(l):cap(out)], []api.Pat{{K: 77, Var: "room"}, {K: 78, Var: "room"}})
	return out
}

func roomIsLeft(l []api.Pat) bool {
	room := l[len(l):cap(l)]
	return len(room) == 2 && room[0].K == 77 && room[1].K == 78 && !slices.ContainsFunc(l, func(p api.Pat) bool { return !roomIsLeft(p.L) })
}

func roomyConds(l []api.Expr) []api.Expr {
	out := make([]api.Expr, len(l), len(l)+2)
	for i, x := range l {
		x.L = roomyConds(x.L)
		out[i] = x
	}
	copy(out[len(l):cap(out)], []api.Expr{{K: 77, Var: "room"}, {K: 78, Var: "room"}})
	return out
}

func condRoomIsLeft(l []api.Expr) bool {
	room := l[len(l):cap(l)]
	return len(room) == 2 && room[0].K == 77 && room[1].K == 78 && !slices.ContainsFunc(l, func(x api.Expr) bool { return !condRoomIsLeft(x.L) })
}

func roomyQuery(q api.Query) api.Query {
	q.P.L, q.Where = roomy(q.P.L), roomyConds(q.Where)
	items := make([]api.Item, len(q.Items), len(q.Items)+1)
	copy(items, q.Items)
	items[:cap(items)][len(items)] = api.Item{Name: "room"}
	q.Items = items
	return q
}

func queryRoomIsLeft(q api.Query) bool {
	return roomIsLeft(q.P.L) && condRoomIsLeft(q.Where) && q.Items[:cap(q.Items)][len(q.Items)].Name == "room"
}

// TestWhatIsHandedIn: P3 and P4, of lists with room behind them and of empty ones.
func TestWhatIsHandedIn(t *testing.T) {
	r := rand.New(rand.NewSource(165))
	for i := range 1500 {
		p := wild(r, 1+i%5)
		q := p
		q.L = roomy(p.L)
		if pat.Size(p) <= 4*api.MaxNodes {
			wantTight(t, "room behind its lists", q, tightOf(p))
		}
		if !roomIsLeft(q.L) || said(p) != said(q) {
			t.Errorf("%s: what lies behind its lists is changed", short(said(p)))
		}
		x := rightQuery(r, fewLeaf, "z", "v1")
		y := roomyQuery(x)
		want, vars := formOfQuery(x)
		wantQuery(t, "room behind its lists", y, want, vars...)
		if !queryRoomIsLeft(y) || saidQuery(x) != saidQuery(y) {
			t.Errorf("%s: what lies behind its lists is changed", short(saidQuery(x)))
		}
	}
	great := wide(api.PAnd, 300)
	great.L = roomy(great.L)
	wantTight(t, "too many with room", great, wide(api.PAnd, 300))
	if !roomIsLeft(great.L) {
		t.Error("what lies behind the lists of a great one is changed")
	}
}

// TestSharedParts hands in patterns and conditions that share their parts: the answers share none.
func TestSharedParts(t *testing.T) {
	parts := []api.Pat{atom("b", "sell"), seq(atom("c", "buy"), atom("a", "buy"))}
	for _, k := range rows {
		for _, p := range []api.Pat{row(k, row(7, parts...), row(7, parts...)), row(k, and(parts...), or(parts...), and(parts...)), row(k, row(k, parts...), row(k, parts...)), row(k, row(k, parts...), parts[1], row(otherThan(k, 2), parts...))} {
			wantTight(t, "shared parts", p, tightOf(p))
		}
	}
	conds := []api.Expr{less("b", "a"), is("a", 1)}
	q := api.Query{P: seq(and(parts...), or(parts...), and(parts...)), Where: []api.Expr{op(api.XOr, conds...), conds[0], op(api.XNot, op(api.XOr, conds...)), op(api.XOr, conds...)}}
	want, vars := formOfQuery(q)
	wantQuery(t, "shared parts", q, want, vars...)
	// One that is too great shares none either.
	l := wide(api.PSeq, 200).L
	wantTight(t, "great ones with shared parts", and(row(7, l...), row(7, l...)), and(row(7, l...), row(7, l...)))
}

// P16.3

func TestQueryAsTheWordsSay(t *testing.T) {
	r := rand.New(rand.NewSource(166))
	forms, fewer := 0, 0
	for range 4000 {
		q := rightQuery(r, fewLeaf, "z", "v0", "v3")
		want, vars := formOfQuery(q)
		wantQuery(t, "at random", q, want, vars...)
		if len(want.Where) < len(q.Where) {
			fewer++
		}
		if saidQuery(want) == saidQuery(q) {
			forms++
		}
		wantQuery(t, "the form of a form", want, want, numbered(len(vars))...)
	}
	if forms < 10 || fewer < 500 {
		t.Errorf("%d are forms, %d have fewer conditions", forms, fewer)
	}
}

// TestFormsAreRight: a form is a right query, and has as many Vars.
func TestFormsAreRight(t *testing.T) {
	r := rand.New(rand.NewSource(167))
	for range 3000 {
		q := rightQuery(r, fewLeaf)
		form, vars, e := canon.Query(q)
		was := query.Names(q)
		if e != api.OK || query.Check(form) != api.OK || anyLoose(form.P) {
			t.Errorf("the form of %s: %s, %d", saidQuery(q), saidQuery(form), e)
		}
		back := query.Rename(form, numbered(len(vars)), vars)
		if !slices.Equal(query.Names(back), was) || said(back.P) != said(canon.Tight(q.P)) {
			t.Errorf("the form of %s with its own names: %s", saidQuery(q), saidQuery(back))
		}
	}
}

// TestOneFormOfMany: the order of parts and of conditions, and names, change nothing, where parts of one form are the same.
func TestOneFormOfMany(t *testing.T) {
	r := rand.New(rand.NewSource(168))
	moved := 0
	for range 4000 {
		q := rightQuery(r, ownLeaf)
		from := varsOf(q.P)
		var to []string
		for _, i := range r.Perm(len(from)) {
			to = append(to, fmt.Sprint(pick(r, []string{"v", "w"}), i))
		}
		other := renamed(q, from, to)
		other.P = shuffled(r, other.P)
		r.Shuffle(len(other.Where), func(i, j int) { other.Where[i], other.Where[j] = other.Where[j], other.Where[i] })
		a, vars, e := canon.Query(q)
		b, others, f := canon.Query(other)
		if e != api.OK || f != api.OK || saidQuery(a) != saidQuery(b) || !canon.Same(q, other) || !canon.Same(other, q) {
			t.Errorf("%s and %s have the forms %s and %s", saidQuery(q), saidQuery(other), saidQuery(a), saidQuery(b))
		}
		for i := range vars {
			if len(others) != len(vars) || others[i] != to[slices.Index(from, vars[i])] {
				t.Errorf("%s and %s: Vars %v and %v", saidQuery(q), saidQuery(other), vars, others)
				break
			}
		}
		if saidQuery(q) != saidQuery(other) {
			moved++
		}
	}
	if moved < 3500 {
		t.Errorf("only %d are others", moved)
	}
}

// changedQuery differs from q in one thing.
func changedQuery(r *rand.Rand, q api.Query) api.Query {
	q = copiedQuery(q)
	x := &q.P
	for len(x.L) > 0 && r.Intn(4) != 0 {
		x = &x.L[r.Intn(len(x.L))]
	}
	switch k := r.Intn(9); {
	case k == 0:
		q.Key = pick(r, []string{"", "k", "K"})
	case k == 1:
		q.Mode = r.Intn(4)
	case k == 2 && len(q.Where) > 0:
		q.Where = q.Where[1:]
	case k == 3 && len(q.Items) > 1:
		slices.Reverse(q.Items)
	case k == 4:
		q.Where = append(q.Where, less(pick(r, varsOf(q.P)), pick(r, varsOf(q.P))))
	case k == 5 && len(x.L) > 0:
		slices.Reverse(x.L)
	case k == 6 && len(x.L) > 0:
		x.L = append(x.L, copied(x.L[0]))
	case len(x.L) == 0:
		*pick(r, []*string{&x.Var, &x.Type}) = pick(r, []string{"x", "y", "a", "b", "v0", ""})
	default:
		x.K = pick(r, rows)
	}
	return q
}

// TestSameIsOneForm holds Same against what the words say, of queries that are nearly the same.
func TestSameIsOneForm(t *testing.T) {
	r := rand.New(rand.NewSource(169))
	same, others, wrong := 0, 0, 0
	for range 6000 {
		a := rightQuery(r, fewLeaf, "z")
		b := changedQuery(r, a)
		want := query.Check(b) == api.OK
		if want {
			x, _ := formOfQuery(a)
			y, _ := formOfQuery(b)
			want = saidQuery(x) == saidQuery(y)
		} else {
			wrong++
		}
		if canon.Same(a, b) != want || canon.Same(b, a) != want {
			t.Errorf("Same of %s and %s: %v", saidQuery(a), saidQuery(b), !want)
		}
		if want {
			same++
		} else {
			others++
		}
	}
	if same < 500 || others < 500 || wrong < 100 {
		t.Errorf("%d same, %d others, %d wrong", same, others, wrong)
	}
}

// P1: calls end, and none panics.

func TestNestedAsDeepAsMayBe(t *testing.T) {
	const n = 1 << 16
	p := chain(n, leaf(0))
	if !pat.Same(canon.Tight(p), p) {
		t.Error("Tight of what is deep")
	}
	x := num(1)
	for range n - 1 {
		x = op(api.XNot, x)
	}
	for _, q := range []api.Query{{P: p}, {P: p, Where: []api.Expr{x}}, {P: leaf(0), Where: []api.Expr{x}}} {
		if form, l, e := canon.Query(q); e != api.ErrLong || len(l) != 0 || form.P.K != 0 || canon.Is(q) || canon.Same(q, q) {
			t.Errorf("Query of what is deep: %d", e)
		}
	}
}

func TestLongLists(t *testing.T) {
	const n = 1 << 17
	for _, k := range rows {
		p := row(k, make([]api.Pat, n)...)
		if got := canon.Tight(p); got.K != k || len(got.L) != n {
			t.Errorf("Tight of many parts: %d", len(got.L))
		}
		if _, _, e := canon.Query(api.Query{P: p}); e != api.ErrLong {
			t.Errorf("Query of many parts: %d", e)
		}
	}
	q := api.Query{P: leaf(0), Where: make([]api.Expr, n), Items: make([]api.Item, n)}
	if _, _, e := canon.Query(q); e != api.ErrLong || canon.Is(q) || canon.Same(q, q) {
		t.Errorf("Query of long lists: %d", e)
	}
}

// TestAnythingGoes hands in what may be anything: nothing panics, and what is refused is what query.Check refuses.
func TestAnythingGoes(t *testing.T) {
	r := rand.New(rand.NewSource(170))
	numbers := []int{math.MinInt, -1, 0, 1, 2, 3, 17, math.MaxInt}
	for range 3000 {
		q := api.Query{P: wild(r, 1+r.Intn(6)), Mode: pick(r, numbers), Within: int64(pick(r, numbers)), Key: pick(r, []string{"", "a", "\xff"})}
		for range r.Intn(4) {
			q.Where = append(q.Where, api.Expr{K: pick(r, numbers), V: api.Value{K: pick(r, numbers), N: int64(pick(r, numbers)), S: "\xff"}, Var: "a", L: make([]api.Expr, r.Intn(3))})
		}
		for range r.Intn(3) {
			q.Items = append(q.Items, item("n", pick(r, numbers), "a", ""))
		}
		_, l, e := canon.Query(q)
		if e != query.Check(q) || e != api.OK && (len(l) > 0 || canon.Is(q) || canon.Same(q, q)) {
			t.Errorf("Query of %s: %v, %d", short(saidQuery(q)), l, e)
		}
	}
}

func FuzzCanon(f *testing.F) {
	for i := range int64(8) {
		f.Add(i, "a", "b", 2, 3)
	}
	f.Fuzz(func(t *testing.T, seed int64, s, u string, n, m int) {
		r := rand.New(rand.NewSource(seed))
		some := func(r *rand.Rand) api.Pat {
			return pick(r, []api.Pat{atom(s, u), atom(u, s), many(s, u, n, m), many(u, s, m, n), not(s, s), fewLeaf(r)})
		}
		p := rightPat(r, 1+r.Intn(5), 0, some)
		p = row(pick(r, rows), p, wild(r, 4), shuffled(r, p), row(n, p), row(pick(r, rows), p))
		if pat.Size(p) <= 4*api.MaxNodes {
			wantTight(t, "fuzz", p, tightOf(p))
		}
		q := rightQuery(r, fewLeaf, "z")
		q.P = rightPat(r, 1+r.Intn(4), 0, some)
		q.Where = append(q.Where, is(s, int64(n)), less(u, s))
		if e := query.Check(q); e != api.OK {
			wantRefused(t, "fuzz", q, e)
			return
		}
		want, vars := formOfQuery(q)
		wantQuery(t, "fuzz", q, want, vars...)
	})
}
