package well_test

import (
	"fmt"
	"maps"
	"math/rand"
	"slices"
	"strings"
	"testing"

	"haruspex/api"
	"haruspex/expr"
	"haruspex/pat"
	"haruspex/query"
	"haruspex/schema"
	"haruspex/typing"
	"haruspex/well"
)

var (
	most = strings.Repeat("n", api.MaxName)
	rows = []int{api.PSeq, api.PAnd, api.POr}
	yes  = api.Expr{K: api.XConst, V: api.Value{K: api.VBool, N: 1}}
)

func atom(v, t string) api.Pat { return api.Pat{K: api.PAtom, Var: v, Type: t} }

func not(v, t string) api.Pat { return api.Pat{K: api.PNot, Var: v, Type: t} }

func many(v, t string) api.Pat { return api.Pat{K: api.PMany, Var: v, Type: t, Lo: 1} }

func row(k int, l ...api.Pat) api.Pat { return api.Pat{K: k, L: l} }

func seq(l ...api.Pat) api.Pat { return row(api.PSeq, l...) }

func and(l ...api.Pat) api.Pat { return row(api.PAnd, l...) }

func or(l ...api.Pat) api.Pat { return row(api.POr, l...) }

// a and its like have buy as their Type, so that tests of places may be short.
func a(v string) api.Pat { return atom(v, "buy") }

func n(v string) api.Pat { return not(v, "buy") }

func m(v string) api.Pat { return many(v, "buy") }

func num(i int64) api.Expr { return api.Expr{K: api.XConst, V: api.Value{K: api.VInt, N: i}} }

func field(v, f string) api.Expr { return api.Expr{K: api.XField, Var: v, Field: f} }

func op(k int, l ...api.Expr) api.Expr { return api.Expr{K: k, L: l} }

func less(v, w string) api.Expr { return op(api.XLt, field(v, "x"), field(w, "x")) }

// about is a bool that has just these Vars.
func about(vars ...string) api.Expr {
	switch len(vars) {
	case 0:
		return yes
	case 1:
		return less(vars[0], vars[0])
	}
	x := op(api.XOr)
	for _, v := range vars {
		x.L = append(x.L, less(v, v))
	}
	return x
}

func item(name string, k int, v, f string) api.Item {
	return api.Item{Name: name, K: k, Var: v, Field: f}
}

func made(name string, l ...api.Field) api.Schema { return api.Schema{Name: name, Fields: l} }

func has(name string, k int) api.Field { return api.Field{Name: name, K: k} }

// book has x as a VInt wherever it is; k is of another kind in tick, only is in sell alone, and bare has nothing.
func book() []api.Schema {
	return []api.Schema{
		made("bare"),
		made("buy", has("x", api.VInt), has("k", api.VText), has("b", api.VBool)),
		made("sell", has("k", api.VText), has("only", api.VInt), has("b", api.VBool), has("x", api.VInt)),
		made("tick", has("k", api.VInt), has("x", api.VInt), has("b", api.VBool)),
	}
}

// full may be, and has all clauses and a Tail.
func full() api.Query {
	inner := seq(atom("b", "buy"), not("o", "sell"), atom("c", "buy"))
	return api.Query{
		P:      seq(atom("a", "buy"), not("n", "sell"), many("m", "sell"), or(inner, many("d", "buy")), not("t", "sell")),
		Where:  []api.Expr{less("a", "m"), less("n", "a"), less("b", "o"), about("t", "a", "m", "c")},
		Key:    "k",
		Mode:   api.MNear,
		Within: 10,
		Items:  []api.Item{item("f", api.IFirst, "a", "k"), item("s", api.ISum, "a", "x"), item("l", api.ILast, "m", "only"), item("n", api.ICount, "d", "")},
	}
}

func copiedPat(p api.Pat) api.Pat {
	l := make([]api.Pat, len(p.L))
	for i, x := range p.L {
		l[i] = copiedPat(x)
	}
	p.L = l
	return p
}

func copiedExpr(x api.Expr) api.Expr {
	l := make([]api.Expr, len(x.L))
	for i, y := range x.L {
		l[i] = copiedExpr(y)
	}
	x.L = l
	return x
}

// copied has empty lists where q has nil ones.
func copied(q api.Query) api.Query {
	l := make([]api.Expr, len(q.Where))
	for i, x := range q.Where {
		l[i] = copiedExpr(x)
	}
	q.P, q.Where = copiedPat(q.P), l
	q.Items = append([]api.Item{}, q.Items...)
	return q
}

func tellPat(b *strings.Builder, p api.Pat) {
	fmt.Fprintf(b, "(%d %q %q %d %d %d", p.K, p.Var, p.Type, p.Lo, p.Hi, len(p.L))
	for _, x := range p.L {
		tellPat(b, x)
	}
	b.WriteByte(')')
}

func tellExpr(b *strings.Builder, x api.Expr) {
	fmt.Fprintf(b, "(%d %d %d %q %q %q %d", x.K, x.V.K, x.V.N, x.V.S, x.Var, x.Field, len(x.L))
	for _, y := range x.L {
		tellExpr(b, y)
	}
	b.WriteByte(')')
}

// said tells all fields of all nodes and items, so nothing changes that it does not show.
func said(q api.Query) string {
	var b strings.Builder
	tellPat(&b, q.P)
	fmt.Fprintf(&b, " key %q mode %d within %d where %d", q.Key, q.Mode, q.Within, len(q.Where))
	for _, x := range q.Where {
		tellExpr(&b, x)
	}
	fmt.Fprintf(&b, " items %d", len(q.Items))
	for _, x := range q.Items {
		fmt.Fprintf(&b, "(%q %d %q %q)", x.Name, x.K, x.Var, x.Field)
	}
	return b.String()
}

func short(q api.Query) string { return fmt.Sprintf("%.600s", said(q)) }

func saidPat(p api.Pat) string { return said(api.Query{P: p}) }

// Models of the chapter's words, by other means.

// stand is a node and the way down to it.
type stand struct {
	way []int
	p   api.Pat
}

// stands has all nodes by their ways: that is the order in which they stand.
func stands(p api.Pat) []stand {
	all := []stand{{nil, p}}
	for i := 0; i < len(all); i++ {
		for j, x := range all[i].p.L {
			all = append(all, stand{append(slices.Clone(all[i].way), j), x})
		}
	}
	slices.SortFunc(all, func(a, b stand) int { return slices.Compare(a.way, b.way) })
	return all
}

func above(way []int) []int { return way[:max(len(way)-1, 0)] }

// isAhead tells whether the node at way is in a part ahead of that at not, in one list of parts.
func isAhead(way, not []int) bool {
	k := len(not) - 1
	return len(way) > k && slices.Equal(way[:k], not[:k]) && way[k] < not[k]
}

// aheadOf asks for each Var of p, and for each PNot v in a PSeq, whether a node of the one is ahead of the other.
func aheadOf(p api.Pat, v string) []string {
	all := stands(p)
	kinds := map[string]int{}
	for _, x := range all {
		kinds[fmt.Sprint(x.way)] = x.p.K
	}
	nots := slices.DeleteFunc(slices.Clone(all), func(x stand) bool {
		return x.p.K != 6 || x.p.Var != v || len(x.way) == 0 || kinds[fmt.Sprint(above(x.way))] != 2
	})
	var l []string
	for _, w := range all {
		missing := slices.ContainsFunc(nots, func(x stand) bool {
			return !slices.ContainsFunc(all, func(y stand) bool {
				return (y.p.K == 1 || y.p.K == 5) && y.p.Var == w.p.Var && isAhead(y.way, x.way)
			})
		})
		if len(nots) > 0 && !missing && !slices.Contains(l, w.p.Var) {
			l = append(l, w.p.Var)
		}
	}
	slices.SortFunc(l, strings.Compare)
	return l
}

func hasVar(x api.Expr, v string) bool {
	return x.K == 2 && x.Var == v || slices.ContainsFunc(x.L, func(y api.Expr) bool { return hasVar(y, v) })
}

func guardsOf(q api.Query, v string) []int {
	var l []int
	for i := len(q.Where) - 1; i >= 0; i-- {
		if hasVar(q.Where[i], v) {
			l = append([]int{i}, l...)
		}
	}
	return l
}

// wrong is an error, and why: the tests ask that each why comes.
type wrong struct {
	e   api.Errno
	why string
}

// model knows of P what the chapter's words speak of.
type model struct {
	l     []api.Schema
	p     api.Pat
	vars  []string
	types map[string]string
	kinds map[string]int // of each Var a bit for each kind that it is anywhere
}

func newModel(l []api.Schema, p api.Pat) model {
	o := model{l, p, nil, map[string]string{}, map[string]int{}}
	for _, x := range stands(p) {
		if x.p.K == 1 || x.p.K >= 5 {
			if o.kinds[x.p.Var] == 0 {
				o.vars = append(o.vars, x.p.Var)
				o.types[x.p.Var] = x.p.Type
			}
			o.kinds[x.p.Var] |= 1 << x.p.K
		}
	}
	return o
}

// kind is 0, if there is no such field.
func (o model) kind(v, name string) int {
	for _, s := range o.l {
		for _, f := range s.Fields {
			if s.Name == o.types[v] && f.Name == name {
				return f.K
			}
		}
	}
	return 0
}

func (o model) known(v string) bool {
	return slices.ContainsFunc(o.l, func(s api.Schema) bool { return s.Name == o.types[v] })
}

// typed asks typing, which has tests of its own.
func (o model) typed(x api.Expr) api.Errno {
	var types []string
	for _, v := range o.vars {
		types = append(types, o.types[v])
	}
	names, _ := typing.New(o.l, o.vars, types)
	return names.Cond(x)
}

func (o model) condition(x api.Expr, say func(e api.Errno, why string, bad bool)) {
	e := o.typed(x)
	say(e, fmt.Sprint("a condition of typing's error ", e), e != 0)
	nots, manys := 0, 0
	for _, v := range o.vars {
		if hasVar(x, v) && o.kinds[v]>>6&1 == 1 {
			nots++
		}
		if hasVar(x, v) && o.kinds[v]>>5&1 == 1 {
			manys++
		}
	}
	say(4, "two PNots", nots > 1)
	say(4, "two PManys", manys > 1)
	for _, v := range o.vars {
		for _, w := range o.vars {
			both := v != w && hasVar(x, v) && hasVar(x, w) && o.kinds[v]>>6&1 == 1
			say(4, "a PNot and one not ahead", both && !slices.Contains(aheadOf(o.p, v), w))
		}
	}
}

func (o model) key(name string, say func(e api.Errno, why string, bad bool)) {
	for _, v := range o.vars {
		k := o.kind(v, name)
		say(6, "no Key", k == 0)
		say(5, "a Key of another kind", k != o.kind(o.vars[0], name))
	}
}

func (o model) item(x api.Item, say func(e api.Errno, why string, bad bool)) {
	say(6, "an item's Var that is none", o.kinds[x.Var] == 0)
	say(6, "an item's Var that is a PNot's", o.kinds[x.Var]>>6&1 == 1)
	say(6, "an item's field", x.K != 3 && o.kind(x.Var, x.Field) == 0)
	say(5, "a sum of others than numbers", x.K == 4 && o.kind(x.Var, x.Field) != 2)
}

// checked gathers all that is wrong, in the chapter's order; the first counts.
func checked(l []api.Schema, q api.Query) wrong {
	var all []wrong
	say := func(e api.Errno, why string, bad bool) {
		if bad {
			all = append(all, wrong{e, why})
		}
	}
	say(1, "no book", schema.Book(l) != 0)
	say(query.Check(q), "no query", query.Check(q) != 0)
	say(pat.Made(q.P), "not made", pat.Made(q.P) != 0)
	if len(all) > 0 {
		return all[0]
	}
	o := newModel(l, q.P)
	say(4, "a Tail without Within", q.P.K == 2 && q.P.L[len(q.P.L)-1].K == 6 && q.Within == 0)
	for _, v := range o.vars {
		say(6, "an unknown Type", !o.known(v))
	}
	if len(all) > 0 {
		return all[0]
	}
	for _, x := range q.Where {
		o.condition(x, say)
	}
	if q.Key != "" {
		o.key(q.Key, say)
	}
	for _, x := range q.Items {
		o.item(x, say)
	}
	return append(all, wrong{0, "nothing"})[0]
}

// Patterns and queries at random.

func pick[T any](r *rand.Rand, l []T) T { return l[r.Intn(len(l))] }

// wildPat may be anything, with few Vars, so that they stand again and again.
func wildPat(r *rand.Rand, deep int) api.Pat {
	p := api.Pat{K: pick(r, []int{0, 1, 1, 2, 2, 2, 3, 4, 5, 6, 6, 6, 7}), Var: pick(r, []string{"a", "b", "c", "n", "o", ""}), Type: "buy"}
	if deep > 1 && (p.K > 1 && p.K < 5 || r.Intn(9) == 0) {
		for range r.Intn(5) {
			p.L = append(p.L, wildPat(r, deep-1))
		}
	}
	return p
}

func wildExpr(r *rand.Rand, deep int) api.Expr {
	x := api.Expr{K: pick(r, []int{0, 1, 2, 2, 2, 3, 9, 16, 17, 18}), Var: pick(r, []string{"a", "b", "c", "n", ""}), Field: "x"}
	for range r.Intn(4) {
		if deep > 1 {
			x.L = append(x.L, wildExpr(r, deep-1))
		}
	}
	return x
}

// maker makes well made patterns; next is the number of the next new Var.
type maker struct {
	r    *rand.Rand
	next int
}

func (k *maker) name(with string) string {
	k.next++
	return fmt.Sprint(with, k.r.Intn(3), "_", k.next)
}

func (k *maker) kind() string {
	if k.r.Intn(30) == 0 {
		return pick(k.r, []string{"tick", "bare", "none"})
	}
	return pick(k.r, []string{"buy", "sell"})
}

func (k *maker) leaf() api.Pat {
	if k.r.Intn(3) == 0 {
		return many(k.name("m"), k.kind())
	}
	return atom(k.name("a"), k.kind())
}

func (k *maker) seq(deep int, whole bool) api.Pat {
	var l []api.Pat
	for range 2 + k.r.Intn(2) {
		l = append(l, k.tree(deep-1, api.PSeq))
		if k.r.Intn(2) == 0 {
			l = append(l, not(k.name("n"), k.kind()))
		}
	}
	if !whole && l[len(l)-1].K == api.PNot || k.r.Intn(3) > 0 && l[len(l)-1].K == api.PNot {
		l = l[:len(l)-1]
	}
	return seq(l...)
}

// again is p, as another part of a POr may have it: all its Vars stand again, some as those of other kinds.
func (k *maker) again(p api.Pat) api.Pat {
	p = copiedPat(p)
	for i := range p.L {
		p.L[i] = k.again(p.L[i])
	}
	switch {
	case p.K == api.PMany && k.r.Intn(2) == 0:
		p.K, p.Lo = api.PAtom, 0
	case p.K == api.PAtom && k.r.Intn(4) == 0:
		p.K, p.Lo = api.PMany, 2
	case p.K == api.PSeq && k.r.Intn(2) == 0:
		slices.Reverse(p.L)
	}
	return p
}

func (k *maker) tree(deep, but int) api.Pat {
	what := pick(k.r, rows)
	switch {
	case deep <= 1 || what == but || k.r.Intn(4) == 0:
		return k.leaf()
	case what == api.PSeq:
		return k.seq(deep, but == 0)
	}
	p := row(what, k.tree(deep-1, what), k.tree(deep-1, what))
	if what == api.POr && k.r.Intn(2) == 0 {
		p.L = append(p.L, k.again(p.L[0]))
	}
	return p
}

// condition is right, and has Vars of p, seldom others.
func (k *maker) condition(p api.Pat) api.Expr {
	vars, _, kinds := pat.Vars(p)
	v := pick(k.r, vars)
	if i := slices.Index(kinds, api.PNot); i >= 0 && k.r.Intn(2) == 0 {
		v = vars[i]
	}
	l := []string{v}
	for range k.r.Intn(3) {
		if ahead := aheadOf(p, v); len(ahead) > 0 && k.r.Intn(4) > 0 {
			l = append(l, pick(k.r, ahead))
		} else {
			l = append(l, pick(k.r, vars))
		}
	}
	if k.r.Intn(40) == 0 {
		l = append(l, "other")
	}
	if k.r.Intn(30) == 0 {
		return pick(k.r, []api.Expr{num(1), field(v, "k"), field(v, "b"), op(api.XEq, field(v, "x"), field(v, "k")), {}})
	}
	return pick(k.r, []api.Expr{about(l...), op(api.XNot, about(l...)), op(api.XOr, op(api.XAnd, yes, about(l...)), yes)})
}

func (k *maker) item(p api.Pat, i int) api.Item {
	vars, _, kinds := pat.Vars(p)
	at := k.r.Intn(len(vars))
	if kinds[at] == api.PNot && k.r.Intn(10) > 0 {
		at = 0
	}
	x := item(fmt.Sprint("i", i), 1+k.r.Intn(4), vars[at], "x")
	if k.r.Intn(20) == 0 {
		x.Field = pick(k.r, []string{"k", "b", "only", "none"})
	}
	if x.K == api.ICount {
		x.Field = ""
	}
	if k.r.Intn(40) == 0 {
		x.Var = "other"
	}
	return x
}

// tame is nearly always right, and often may be.
func tame(r *rand.Rand) api.Query {
	k := &maker{r: r}
	q := api.Query{P: k.tree(1+r.Intn(5), 0), Within: int64(r.Intn(4)), Mode: r.Intn(3)}
	if r.Intn(2) == 0 {
		q.P = k.seq(2+r.Intn(4), true)
	}
	if r.Intn(3) == 0 {
		q.Key = pick(r, []string{"k", "k", "x", "b", "only", "none"})
	}
	for range r.Intn(3) {
		q.Where = append(q.Where, k.condition(q.P))
	}
	for i := range r.Intn(3) {
		q.Items = append(q.Items, k.item(q.P, i))
	}
	return q
}

// P14.1

func wantAhead(t *testing.T, what string, p api.Pat, v string, want ...string) {
	t.Helper()
	was := saidPat(p)
	got := well.Ahead(p, v)
	if !slices.Equal(got, want) {
		t.Errorf("Ahead of %q in %s, %.600s: %.300q, want %.300q", v, what, was, got, want)
	}
	for i := range got {
		got[i] = "spoilt"
	}
	if saidPat(p) != was || !slices.Equal(well.Ahead(p, v), want) {
		t.Errorf("Ahead of %s changed it, or what it answers then", what)
	}
}

func TestAheadByPlace(t *testing.T) {
	wantAhead(t, "a PSeq, first", seq(n("n"), a("a"), a("b")), "n")
	wantAhead(t, "a PSeq, first of two", seq(n("n"), a("a")), "n")
	wantAhead(t, "a PSeq, second", seq(a("a"), n("n"), a("b")), "n", "a")
	wantAhead(t, "a PSeq, in between", seq(a("a"), a("b"), n("n"), a("c"), a("d")), "n", "a", "b")
	wantAhead(t, "a PSeq, last", seq(a("a"), a("b"), n("n")), "n", "a", "b")
	wantAhead(t, "a PSeq, last of two", seq(a("a"), n("n")), "n", "a")
	wantAhead(t, "a PSeq, alone", seq(n("n")), "n")
	wantAhead(t, "the document's example", seq(a("a"), n("b"), a("c")), "b", "a")
	l := []api.Pat{a("a"), a("b"), a("c"), a("d"), a("e")}
	for i := range 6 {
		wantAhead(t, fmt.Sprint("a PSeq, at ", i), seq(slices.Insert(slices.Clone(l), i, n("n"))...), "n", []string{"a", "b", "c", "d", "e"}[:i]...)
	}
}

func TestAheadByWhatIsThere(t *testing.T) {
	wantAhead(t, "behind a PAtom", seq(a("a"), n("n"), a("z")), "n", "a")
	wantAhead(t, "behind a PMany", seq(m("m"), n("n"), a("z")), "n", "m")
	wantAhead(t, "behind a PAnd", seq(and(a("b"), m("a")), n("n"), a("z")), "n", "a", "b")
	wantAhead(t, "behind a POr", seq(or(a("b"), m("a")), n("n"), a("z")), "n", "a", "b")
	wantAhead(t, "behind a PSeq", seq(seq(a("b"), m("a")), n("n"), a("z")), "n", "a", "b")
	wantAhead(t, "behind a PSeq below a PAnd", seq(and(seq(a("b"), m("a")), a("c")), n("n"), a("z")), "n", "a", "b", "c")
	wantAhead(t, "behind a PSeq below a POr", seq(or(seq(a("b"), m("a")), a("c")), n("n"), a("z")), "n", "a", "b", "c")
	wantAhead(t, "behind a PNot", seq(a("a"), n("o"), n("n"), a("z")), "n", "a")
	wantAhead(t, "behind a PNot alone", seq(n("o"), n("n"), a("z")), "n")
	wantAhead(t, "behind a PNot and a part", seq(a("a"), n("o"), a("b"), n("n"), a("z")), "n", "a", "b")
	wantAhead(t, "ahead of a PNot", seq(a("a"), n("n"), a("b"), n("o"), a("z")), "n", "a")
	wantAhead(t, "behind a part that holds a PNot", seq(or(seq(a("a"), n("o"), a("b")), a("c")), n("n"), a("z")), "n", "a", "b", "c")
	wantAhead(t, "behind a part that holds two PNots", seq(and(seq(a("a"), n("o"), a("b"), n("p"), m("d")), or(a("c"), a("e"))), n("n"), a("z")), "n", "a", "b", "c", "d", "e")
	wantAhead(t, "behind a part of PNots alone", seq(and(n("o"), n("p")), n("n")), "n")
	wantAhead(t, "behind a deep part", seq(a("a"), or(and(or(and(or(and(m("f"), a("g")), a("e")), a("d")), a("c")), a("b"))), n("n"), a("z")), "n", "a", "b", "c", "d", "e", "f", "g")
	wantAhead(t, "ahead of a deep part", seq(a("a"), n("n"), or(and(or(a("b"), a("c")), a("d")), a("e"))), "n", "a")
}

func TestAheadWithin(t *testing.T) {
	in := seq(a("b"), n("n"), a("c"))
	wantAhead(t, "a PSeq in a PSeq", seq(a("a"), in, a("d")), "n", "b")
	wantAhead(t, "a PSeq in a POr in a PSeq", seq(a("a"), or(in, a("e")), a("d")), "n", "b")
	wantAhead(t, "a PSeq in a PAnd in a PSeq", seq(a("a"), and(a("e"), in), a("d")), "n", "b")
	wantAhead(t, "a PSeq in a PAnd", and(a("a"), in), "n", "b")
	wantAhead(t, "a PSeq in a POr", or(a("a"), in), "n", "b")
	wantAhead(t, "a PSeq deep below", seq(a("a"), or(seq(a("d"), and(a("e"), seq(a("f"), or(a("g"), in))))), a("h")), "n", "b")
	wantAhead(t, "a PSeq in a PSeq, first in its own", seq(a("a"), or(seq(n("n"), a("b")), a("c"))), "n")
	wantAhead(t, "a PSeq in a PSeq, last in its own", seq(a("a"), or(seq(a("b"), a("d"), n("n")), a("c"))), "n", "b", "d")
	both := seq(a("a"), n("o"), or(in, a("e")), n("p"), a("d"))
	wantAhead(t, "the outer PSeq, ahead of the inner one", both, "o", "a")
	wantAhead(t, "the inner PSeq", both, "n", "b")
	wantAhead(t, "the outer PSeq, behind the inner one", both, "p", "a", "b", "c", "e")
}

func TestAheadInNoPSeq(t *testing.T) {
	wantAhead(t, "the PNot itself", n("n"), "n")
	wantAhead(t, "a PAnd", and(a("a"), n("n"), a("b")), "n")
	wantAhead(t, "a POr", or(a("a"), n("n"), a("b")), "n")
	wantAhead(t, "a PAnd in a PSeq", seq(a("a"), and(a("b"), n("n")), a("c")), "n")
	wantAhead(t, "a POr in a PSeq", seq(a("a"), or(a("b"), n("n")), a("c")), "n")
	for k := -1; k <= 8; k++ {
		if k != api.PSeq {
			wantAhead(t, fmt.Sprint("kind ", k), row(k, a("a"), n("n"), a("b")), "n")
			wantAhead(t, fmt.Sprintf("kind %d in a PSeq", k), seq(a("c"), row(k, a("a"), n("n"), a("b")), a("d")), "n")
		}
	}
	wantAhead(t, "a PAnd and in a PSeq", or(seq(a("a"), n("n"), a("b")), and(a("c"), n("n"))), "n", "a")
	wantAhead(t, "a PAnd and in a PSeq, turned", or(and(a("c"), n("n")), seq(a("a"), n("n"), a("b"))), "n", "a")
	wantAhead(t, "a PAnd ahead in its PSeq", seq(a("a"), and(a("c"), n("n")), n("n"), a("b")), "n", "a", "c")
}

func TestAheadOfSeveral(t *testing.T) {
	wantAhead(t, "one PSeq", seq(a("a"), n("n"), a("b"), n("n"), a("c")), "n", "a")
	wantAhead(t, "one PSeq, three", seq(a("b"), m("a"), n("n"), a("c"), n("n"), a("d"), n("n")), "n", "a", "b")
	wantAhead(t, "one PSeq, the first ahead of all", seq(n("n"), a("a"), n("n"), a("b")), "n")
	wantAhead(t, "one PSeq, side by side", seq(a("a"), n("n"), n("n"), a("b")), "n", "a")
	wantAhead(t, "two PSeqs, the same ahead", or(seq(a("a"), n("n"), a("b")), seq(a("a"), n("n"), a("c"))), "n", "a")
	wantAhead(t, "two PSeqs, others ahead", or(seq(a("a"), n("n"), a("b")), seq(a("b"), n("n"), a("a"))), "n")
	wantAhead(t, "two PSeqs, some the same", or(seq(a("a"), a("b"), a("c"), n("n"), a("z")), seq(a("d"), a("c"), a("a"), n("n"), a("b"))), "n", "a", "c")
	wantAhead(t, "two PSeqs, fewer ahead in the first", or(seq(a("a"), n("n"), a("b")), seq(a("a"), a("b"), n("n"), a("c"))), "n", "a")
	wantAhead(t, "two PSeqs, fewer ahead in the second", or(seq(a("a"), a("b"), n("n"), a("c")), seq(a("b"), n("n"), a("a"))), "n", "b")
	wantAhead(t, "two PSeqs, none ahead in the first", or(seq(n("n"), a("a")), seq(a("a"), n("n"), a("b"))), "n")
	wantAhead(t, "two PSeqs, none ahead in the second", or(seq(a("a"), n("n"), a("b")), seq(n("n"), a("a"))), "n")
	wantAhead(t, "two PSeqs, the same as unlike kinds", or(seq(a("a"), n("n"), a("b")), seq(m("a"), n("n"), a("c"))), "n", "a")
	wantAhead(t, "two PSeqs, the same within a part", or(seq(and(a("c"), or(a("a"), a("d"))), n("n"), a("b")), seq(a("a"), n("n"), a("c"))), "n", "a")
	wantAhead(t, "three PSeqs, each two share one", or(seq(a("a"), a("b"), n("n"), a("z")), seq(a("b"), a("c"), n("n"), a("z")), seq(a("c"), a("a"), n("n"), a("z"))), "n")
	wantAhead(t, "three PSeqs, all share one", or(seq(a("a"), a("b"), n("n"), a("z")), seq(a("b"), a("c"), n("n"), a("z")), seq(a("c"), a("b"), n("n"), a("z"))), "n", "b")
	wantAhead(t, "three PSeqs, the first and the last share one", or(seq(a("a"), n("n"), a("z")), seq(a("b"), n("n"), a("z")), seq(a("a"), n("n"), a("z"))), "n")
	wantAhead(t, "a PSeq and one within a part ahead", seq(a("a"), or(seq(a("b"), n("n"), a("c")), a("d")), n("n"), a("e")), "n", "b")
	wantAhead(t, "a PSeq and one within a part behind", seq(a("a"), n("n"), or(seq(a("b"), n("n"), a("c")), a("d"))), "n")
	wantAhead(t, "a PSeq and one within a part behind that shares one", seq(a("a"), n("n"), or(seq(a("b"), a("a"), n("n"), a("c")), a("d"))), "n", "a")
	wantAhead(t, "a PSeq and two within parts ahead", seq(or(seq(a("a"), n("n"), a("c")), a("d")), or(seq(a("b"), n("n"), a("c")), a("d")), n("n"), a("e")), "n")
	wantAhead(t, "a PSeq and two within parts ahead that share one", seq(or(seq(a("a"), a("f"), n("n"), a("c")), a("d")), or(seq(a("f"), a("b"), n("n"), a("c")), a("d")), n("n"), a("e")), "n", "f")
	wantAhead(t, "a PNot of another Var", or(seq(a("a"), n("n"), a("b")), seq(a("c"), n("o"), a("d"))), "n", "a")
	wantAhead(t, "a PNot of another Type", or(seq(a("a"), n("n"), a("b")), seq(a("a"), a("c"), not("n", "sell"), a("d"))), "n", "a")
}

func TestAheadOfNone(t *testing.T) {
	p := seq(a("a"), n("n"), m("b"), or(seq(a("c"), n("o"), a("d")), a("e")))
	for _, v := range []string{"a", "b", "c", "d", "e", "z", "", "N", "nn", "buy", " n", "n "} {
		wantAhead(t, "no PNot's", p, v)
	}
	wantAhead(t, "no PNot at all", seq(a("a"), a("n"), a("b")), "n")
	wantAhead(t, "a PMany", seq(a("a"), m("n"), a("b")), "n")
	wantAhead(t, "the zero pattern", api.Pat{}, "")
	wantAhead(t, "the zero pattern", api.Pat{}, "n")
	wantAhead(t, "a PSeq of nothing", seq(), "n")
	wantAhead(t, "a PSeq of an empty list", api.Pat{K: api.PSeq, L: []api.Pat{}}, "n")
	wantAhead(t, "an atom", a("n"), "n")
}

func TestAheadByBytes(t *testing.T) {
	var l []api.Pat
	want := []string{"a", "a0", "a1", "a10", "a2", "a9", "a_", "a_1", "aa", "ab", "b", "b0", "z"}
	for _, v := range []string{"z", "ab", "a_1", "a10", "a9", "b", "a_", "aa", "a2", "a1", "a", "b0", "a0"} {
		l = append(l, a(v))
	}
	wantAhead(t, "names in no order", seq(append(l, n("n"))...), "n", want...)
	wantAhead(t, "names in no order, within", seq(and(l[:6]...), or(l[6:]...), n("n")), "n", want...)
	slices.Reverse(l)
	wantAhead(t, "names in no order, turned", seq(append(l, n("n"))...), "n", want...)
	wantAhead(t, "names as long as may be", seq(a(most), a(most[1:]), n("n")), "n", most[1:], most)
	wantAhead(t, "no names", seq(a("é"), a("a\xff"), a("A"), a("a"), a(""), a("Z"), a("a\x00"), n("n")), "n", "", "A", "Z", "a", "a\x00", "a\xff", "é")
}

func TestAheadTwice(t *testing.T) {
	wantAhead(t, "a name twice", seq(a("a"), a("b"), a("a"), n("n"), a("c")), "n", "a", "b")
	wantAhead(t, "a name in both parts of a POr", seq(or(a("a"), m("a")), n("n"), a("c")), "n", "a")
	wantAhead(t, "a name in parts of parts", seq(or(and(a("b"), a("a")), seq(a("a"), a("b"))), n("n"), a("c")), "n", "a", "b")
	wantAhead(t, "a name twice, of two PNots", or(seq(a("a"), a("a"), n("n"), a("c")), seq(a("a"), n("n"), a("c"))), "n", "a")
	wantAhead(t, "a name twice ahead of the first of two PNots", or(seq(a("a"), a("a"), n("n"), a("c")), seq(a("b"), n("n"), a("c"))), "n")
	wantAhead(t, "a name ahead and behind", seq(a("a"), n("n"), a("a")), "n", "a")
	wantAhead(t, "a name of a PNot and of an atom", seq(a("a"), n("o"), a("o"), n("n"), a("c")), "n", "a", "o")
	wantAhead(t, "a name of an atom and of a PNot", seq(a("o"), n("o"), n("n"), a("c")), "n", "o")
	wantAhead(t, "the PNot's own name", seq(a("n"), n("n"), a("c")), "n", "n")
	wantAhead(t, "the PNot's own name, behind", seq(a("a"), n("n"), a("n")), "n", "a")
}

func TestAheadOfWhatIsNotRight(t *testing.T) {
	wantAhead(t, "no Var", seq(a("a"), n(""), a("b")), "", "a")
	wantAhead(t, "no Var ahead", seq(a(""), n("n"), a("b")), "n", "")
	wantAhead(t, "no Var, asked for another", seq(a("a"), n(""), a("b")), "n")
	wantAhead(t, "a Var that is no name", seq(a("A"), n("N N"), a("b")), "N N", "A")
	wantAhead(t, "no Type", seq(atom("a", ""), not("n", ""), a("b")), "n", "a")
	wantAhead(t, "counts", seq(api.Pat{K: api.PAtom, Var: "a", Lo: 7, Hi: -1}, api.Pat{K: api.PNot, Var: "n", Lo: -3}), "n", "a")
	wantAhead(t, "a PSeq with a Var", seq(api.Pat{K: api.PSeq, Var: "s", L: []api.Pat{a("a")}}, n("n")), "n", "a")
	wantAhead(t, "kinds that are none, with Vars", seq(api.Pat{K: 0, Var: "x"}, api.Pat{K: 7, Var: "y"}, api.Pat{K: -1, Var: "z"}, api.Pat{K: 3, Var: "p"}, api.Pat{K: 4, Var: "q"}, n("n")), "n")
	wantAhead(t, "parts of kinds that have none", seq(row(api.PAtom, a("b")), row(9, a("a")), n("n")), "n", "", "a", "b")
	wantAhead(t, "a PSeq in an atom", row(api.PAtom, seq(a("a"), n("n"))), "n", "a")
	wantAhead(t, "a PSeq in the PNot", seq(a("a"), api.Pat{K: api.PNot, Var: "n", L: []api.Pat{seq(a("b"), n("n"))}}), "n")
	wantAhead(t, "parts of a PNot ahead", seq(api.Pat{K: api.PNot, Var: "o", L: []api.Pat{a("b")}}, n("n")), "n", "b")
	wantAhead(t, "parts of the PNot itself", seq(a("a"), api.Pat{K: api.PNot, Var: "n", L: []api.Pat{a("b")}}), "n", "a")
	wantAhead(t, "a PSeq of one kind in one another", seq(seq(seq(a("a"), n("n")))), "n", "a")
	wantAhead(t, "a pattern that is not well made", seq(n("n"), n("n"), a("a"), a("a")), "n")
}

// small has all patterns of up to two nodes below a row, with few Vars.
func small(deep int) []api.Pat {
	l := []api.Pat{a("a"), m("b"), n("n")}
	if deep == 1 {
		return l
	}
	in := small(deep - 1)
	for _, k := range rows {
		for _, x := range in {
			for _, y := range in {
				l = append(l, row(k, x, y))
			}
		}
	}
	return l
}

func TestAheadAsTheWordsSay(t *testing.T) {
	got := map[int]int{}
	ask := func(p api.Pat, vars ...string) {
		for _, v := range vars {
			want := aheadOf(p, v)
			got[len(want)]++
			wantAhead(t, "one of many", p, v, want...)
		}
	}
	for _, p := range small(3) {
		ask(p, "n", "a")
	}
	for _, x := range small(2) {
		for _, y := range small(2) {
			ask(seq(x, y, n("n"), a("z")), "n")
			ask(or(seq(x, n("n"), a("z")), seq(y, n("n"), x)), "n")
		}
	}
	r := rand.New(rand.NewSource(14))
	for i := range 20000 {
		ask(wildPat(r, 2+i%4), "n", "o", "a", "")
		q := tame(r)
		vars, _, _ := pat.Vars(q.P)
		ask(q.P, vars...)
	}
	if got[0] < 1000 || got[1] < 1000 || got[2] < 1000 || got[3] < 100 || got[4] < 100 {
		t.Errorf("too few of one sort: %v", got)
	}
}

func wantGuards(t *testing.T, what string, l []api.Expr, v string, want ...int) {
	t.Helper()
	q := api.Query{Where: l}
	was := said(q)
	got := well.Guards(q, v)
	if !slices.Equal(got, want) {
		t.Errorf("Guards of %q in %s, %.600s: %v, want %v", v, what, was, got, want)
	}
	for i := range got {
		got[i] = 99
	}
	if said(q) != was || !slices.Equal(well.Guards(q, v), want) {
		t.Errorf("Guards of %s changed it, or what it answers then", what)
	}
}

func TestGuards(t *testing.T) {
	type s = []api.Expr
	l := s{less("a", "b"), yes, op(api.XNot, less("n", "a")), less("n", "n"), op(api.XOr, yes, op(api.XAnd, yes, less("c", "a")))}
	wantGuards(t, "some", l, "a", 0, 2, 4)
	wantGuards(t, "some", l, "b", 0)
	wantGuards(t, "some", l, "c", 4)
	wantGuards(t, "some", l, "n", 2, 3)
	wantGuards(t, "none", l, "z")
	wantGuards(t, "none", l, "")
	wantGuards(t, "a Field", l, "x")
	wantGuards(t, "a beginning", s{less("ab", "ac")}, "a")
	wantGuards(t, "all", s{less("a", "b"), less("c", "a"), less("a", "a")}, "a", 0, 1, 2)
	wantGuards(t, "the first", s{less("a", "b"), yes, yes}, "b", 0)
	wantGuards(t, "the last", s{yes, yes, less("a", "b")}, "b", 2)
	wantGuards(t, "twice in one", s{yes, less("a", "a")}, "a", 1)
	wantGuards(t, "one condition twice", s{less("a", "b"), less("a", "b")}, "a", 0, 1)
	wantGuards(t, "nil", nil, "a")
	wantGuards(t, "empty", s{}, "a")
	wantGuards(t, "constants", s{yes, num(1), {}}, "a")
	var big []api.Expr
	var want []int
	for i := range 1000 {
		big = append(big, less("a", fmt.Sprint("v", i%3)))
		if i%3 == 1 {
			want = append(want, i)
		}
	}
	wantGuards(t, "many", big, "v1", want...)
	q := api.Query{P: seq(a("a"), n("n"), a("b")), Key: "n", Items: []api.Item{item("n", api.ICount, "n", "")}, Where: s{less("a", "b")}}
	if got := well.Guards(q, "n"); len(got) != 0 {
		t.Errorf("Guards of a Var that is in the other clauses alone: %v", got)
	}
	if got := well.Guards(full(), "n"); !slices.Equal(got, []int{1}) {
		t.Errorf("Guards of full: %v", got)
	}
}

func TestGuardsOfWhatIsNotRight(t *testing.T) {
	type s = []api.Expr
	wantGuards(t, "the zero query", nil, "")
	wantGuards(t, "zero conditions", make(s, 3), "")
	wantGuards(t, "no Var", s{field("", "x"), field("a", "x"), op(api.XNot, field("", ""))}, "", 0, 2)
	wantGuards(t, "a Var that is no name", s{field("A B", "x"), field("a", "x")}, "A B", 0)
	wantGuards(t, "Vars of others than fields", s{{K: api.XConst, Var: "a"}, {Var: "a"}, {K: api.XAdd, Var: "a"}, field("a", "")}, "a", 3)
	wantGuards(t, "parts of kinds that have none", s{op(api.XConst, field("a", "x")), op(77, field("a", "x")), op(api.XField, field("a", "x"))}, "a", 0, 1, 2)
	wantGuards(t, "an XAnd", s{op(api.XAnd, less("a", "b"), less("c", "d"))}, "d", 0)
	wantGuards(t, "an XAnd of an XAnd", s{yes, op(api.XAnd, op(api.XAnd, field("d", "x")))}, "d", 1)
}

func TestGuardsAsTheWordsSay(t *testing.T) {
	r := rand.New(rand.NewSource(141))
	for range 5000 {
		q := tame(r)
		for range r.Intn(5) {
			q.Where = append(q.Where, wildExpr(r, 1+r.Intn(4)))
		}
		for _, v := range append(query.Names(q), "a", "n", "") {
			wantGuards(t, "one of many", q.Where, v, guardsOf(q, v)...)
		}
	}
}

// P14.2

func wantCheck(t *testing.T, what string, l []api.Schema, q api.Query, want api.Errno) {
	t.Helper()
	was, wasBook := said(q), fmt.Sprintf("%#v", l)
	if got := well.Check(l, q); got != want {
		t.Errorf("Check of %s, %s: %d, want %d", what, short(q), got, want)
	}
	if said(q) != was || fmt.Sprintf("%#v", l) != wasBook {
		t.Errorf("Check of %s changed what came in", what)
	}
}

// wantWith asks of full with one change.
func wantWith(t *testing.T, what string, want api.Errno, change func(q *api.Query)) {
	t.Helper()
	q := full()
	change(&q)
	wantCheck(t, what, book(), q, want)
}

func TestCheckLetsBe(t *testing.T) {
	wantCheck(t, "full", book(), full(), api.OK)
	wantCheck(t, "full with empty lists", book(), copied(full()), api.OK)
	wantCheck(t, "an atom alone", book(), api.Query{P: a("a")}, api.OK)
	wantCheck(t, "a PMany alone", book(), api.Query{P: m("a")}, api.OK)
	wantCheck(t, "an atom without fields", book(), api.Query{P: atom("a", "bare")}, api.OK)
	wantCheck(t, "a book of one", []api.Schema{made("t")}, api.Query{P: atom("a", "t")}, api.OK)
	wantCheck(t, "a Var with the name of its Type", book(), api.Query{P: atom("buy", "buy"), Where: []api.Expr{less("buy", "buy")}}, api.OK)
	wantCheck(t, "names as long as may be", []api.Schema{made(most, has(most, api.VInt))}, api.Query{P: atom(most, most), Key: most, Where: []api.Expr{op(api.XEq, field(most, most), num(1))}, Items: []api.Item{item(most, api.ISum, most, most)}}, api.OK)
	wantWith(t, "no conditions", api.OK, func(q *api.Query) { q.Where = nil })
	wantWith(t, "no items", api.OK, func(q *api.Query) { q.Items = nil })
	wantWith(t, "no Key", api.OK, func(q *api.Query) { q.Key = "" })
	for mode := api.MAny; mode <= api.MStrict; mode++ {
		wantWith(t, fmt.Sprint("Mode ", mode), api.OK, func(q *api.Query) { q.Mode = mode })
	}
	var l []api.Schema
	q := api.Query{P: and()}
	for i := range api.MaxSchemas {
		l = append(l, made(fmt.Sprint("t", i), has("x", api.VInt)))
		q.P.L = append(q.P.L, atom(fmt.Sprint("v", i), l[i].Name))
		q.Where = append(q.Where, less("v0", fmt.Sprint("v", i)))
		q.Items = append(q.Items, item(fmt.Sprint("i", i), api.ISum, fmt.Sprint("v", i), "x"))
		q.Key = "x"
	}
	wantCheck(t, "as many of all as may be", l, q, api.OK)
}

func TestCheckExample(t *testing.T) {
	q := api.Query{P: seq(a("a"), n("b"), a("c")), Where: []api.Expr{op(api.XGt, field("b", "x"), field("c", "x"))}}
	wantCheck(t, "the document's example", book(), q, api.ErrForm)
	q.Where[0].L[1].Var = "a"
	wantCheck(t, "the document's example with the one ahead", book(), q, api.OK)
}

// noBooks are lists that schema.Book refuses, by each of its errors; all have a schema buy.
func noBooks() map[string][]api.Schema {
	buy := book()[1]
	var wide []api.Field
	for i := range api.MaxFields + 1 {
		wide = append(wide, has(fmt.Sprint("f", i), api.VInt))
	}
	return map[string][]api.Schema{
		"a zero schema":                      {buy, {}},
		"one without a name":                 {made(""), buy},
		"no name":                            {buy, made("Buy")},
		"two of one name":                    {buy, buy},
		"two of one name, with other fields": {buy, made("buy")},
		"a field twice":                      {buy, made("b", has("x", api.VInt), has("x", api.VInt))},
		"no kind":                            {buy, made("b", has("x", api.VNull))},
		"no kind, above":                     {buy, made("b", has("x", 4))},
		"too many fields":                    {buy, made("b", wide...)},
		"too many schemas":                   append([]api.Schema{buy}, make([]api.Schema, api.MaxSchemas)...),
	}
}

func TestCheckSchemas(t *testing.T) {
	for what, l := range noBooks() {
		if schema.Book(l) == api.OK {
			t.Errorf("%s is a book", what)
		}
		wantCheck(t, what, l, api.Query{P: a("a")}, api.ErrArg)
		wantCheck(t, what+", with full", l, full(), api.ErrArg)
		wantCheck(t, what+", with the zero query", l, api.Query{}, api.ErrArg)
		wantCheck(t, what+", with a query of ErrLong", l, api.Query{P: a("a"), Where: make([]api.Expr, 17)}, api.ErrArg)
		wantCheck(t, what+", with a pattern of ErrForm", l, api.Query{P: n("a")}, api.ErrArg)
		wantCheck(t, what+", with an unknown Type", l, api.Query{P: atom("a", "zz")}, api.ErrArg)
	}
	wantCheck(t, "nil schemas", nil, api.Query{P: a("a")}, api.ErrNone)
	wantCheck(t, "empty schemas", []api.Schema{}, api.Query{P: a("a")}, api.ErrNone)
	wantCheck(t, "nil schemas and the zero query", nil, api.Query{}, api.ErrArg)
	wantCheck(t, "nil schemas and a query that is too long", nil, api.Query{P: a("a"), Items: make([]api.Item, 17)}, api.ErrLong)
	wantCheck(t, "nil schemas and a pattern that is not well made", nil, api.Query{P: seq(n("a"), a("b"))}, api.ErrForm)
}

func TestCheckQuery(t *testing.T) {
	wantCheck(t, "the zero query", book(), api.Query{}, api.ErrArg)
	wantCheck(t, "the zero query with empty lists", book(), copied(api.Query{}), api.ErrArg)
	for what, x := range map[string]struct {
		e      api.Errno
		change func(q *api.Query)
	}{
		"the zero pattern":          {api.ErrArg, func(q *api.Query) { q.P = api.Pat{} }},
		"no Var":                    {api.ErrArg, func(q *api.Query) { q.P.L[0].Var = "" }},
		"a Var that is no name":     {api.ErrArg, func(q *api.Query) { q.P.L[0].Var = "A" }},
		"no Type":                   {api.ErrArg, func(q *api.Query) { q.P.L[0].Type = "" }},
		"a PSeq of one part":        {api.ErrArg, func(q *api.Query) { q.P = seq(a("a")) }},
		"a PSeq in a PSeq":          {api.ErrArg, func(q *api.Query) { q.P = seq(a("a"), seq(a("b"), a("c"))) }},
		"too many nodes":            {api.ErrLong, func(q *api.Query) { q.P = or(slices.Repeat([]api.Pat{a("a")}, api.MaxNodes)...) }},
		"too many conditions":       {api.ErrLong, func(q *api.Query) { q.Where = slices.Repeat([]api.Expr{yes}, 17) }},
		"too many items":            {api.ErrLong, func(q *api.Query) { q.Items = make([]api.Item, 17) }},
		"a zero condition":          {api.ErrArg, func(q *api.Query) { q.Where[3] = api.Expr{} }},
		"an XNot of nothing":        {api.ErrArg, func(q *api.Query) { q.Where[0] = op(api.XNot) }},
		"an XAnd":                   {api.ErrArg, func(q *api.Query) { q.Where[0] = op(api.XAnd, yes, yes) }},
		"a condition without a Var": {api.ErrArg, func(q *api.Query) { q.Where[0] = less("a", "") }},
		"a condition too long":      {api.ErrLong, func(q *api.Query) { q.Where[0] = op(api.XOr, slices.Repeat([]api.Expr{yes}, 100)...) }},
		"conditions too long":       {api.ErrLong, func(q *api.Query) { q.Where = []api.Expr{yes, op(api.XOr, slices.Repeat([]api.Expr{yes}, 98)...)} }},
		"no Key":                    {api.ErrArg, func(q *api.Query) { q.Key = "K" }},
		"no Mode":                   {api.ErrArg, func(q *api.Query) { q.Mode = 3 }},
		"no Within":                 {api.ErrArg, func(q *api.Query) { q.Within = -1 }},
		"a Within too great":        {api.ErrArg, func(q *api.Query) { q.Within = api.MaxWithin + 1 }},
		"a zero item":               {api.ErrArg, func(q *api.Query) { q.Items[0] = api.Item{} }},
		"an item without a Var":     {api.ErrArg, func(q *api.Query) { q.Items[0].Var = "" }},
		"two items of one Name":     {api.ErrArg, func(q *api.Query) { q.Items[0].Name = q.Items[1].Name }},
		"an ICount with a Field":    {api.ErrArg, func(q *api.Query) { q.Items[3].Field = "x" }},
		"an ISum without":           {api.ErrArg, func(q *api.Query) { q.Items[1].Field = "" }},
	} {
		wantWith(t, what, x.e, x.change)
	}
}

func TestCheckPattern(t *testing.T) {
	for i, p := range []api.Pat{
		n("a"), seq(n("n"), a("a")), seq(a("a"), n("n"), n("o"), a("b")), and(a("a"), n("n")), or(a("a"), n("n")), or(seq(a("a"), n("n")), a("b")),
		seq(a("a"), a("a")), and(a("a"), m("a")), seq(a("a"), n("a"), a("b")), or(a("a"), atom("a", "sell")), seq(or(a("a"), a("b")), a("a")),
		or(seq(a("a"), n("n"), a("b")), a("n")), or(a("n"), seq(a("a"), n("n"), a("b"))), or(seq(a("a"), n("n"), a("b")), m("n")), seq(or(seq(a("a"), n("n"), a("b")), a("c")), a("n")),
	} {
		wantCheck(t, fmt.Sprint("not well made ", i), book(), api.Query{P: p, Within: 1}, api.ErrForm)
		wantCheck(t, fmt.Sprintf("not well made %d, and a condition with a Var that is a PNot's in one place alone", i), book(), api.Query{P: p, Within: 1, Where: []api.Expr{less("n", "a")}}, api.ErrForm)
	}
	for i, p := range []api.Pat{
		seq(a("a"), n("n"), a("b"), n("o"), a("c")), or(a("a"), m("a")), or(seq(a("a"), n("n"), a("b")), seq(a("b"), n("n"), a("a"))), seq(and(a("a"), or(a("b"), a("c"))), n("n"), m("d")),
	} {
		wantCheck(t, fmt.Sprint("well made ", i), book(), api.Query{P: p}, api.OK)
	}
}

func TestCheckTail(t *testing.T) {
	tail := seq(a("a"), n("n"))
	for within, want := range map[int64]api.Errno{0: api.ErrForm, 1: api.OK, 2: api.OK, api.MaxWithin: api.OK, api.MaxWithin + 1: api.ErrArg, -1: api.ErrArg} {
		wantCheck(t, fmt.Sprint("a Tail, Within ", within), book(), api.Query{P: tail, Within: within}, want)
		wantWith(t, fmt.Sprint("full, Within ", within), want, func(q *api.Query) { q.Within = within })
	}
	wantCheck(t, "no Tail, Within 0", book(), api.Query{P: seq(a("a"), n("n"), a("b"))}, api.OK)
	wantCheck(t, "no Tail, Within 1", book(), api.Query{P: seq(a("a"), n("n"), a("b")), Within: 1}, api.OK)
	wantCheck(t, "no PNot, Within 0", book(), api.Query{P: seq(a("a"), a("b"))}, api.OK)
	wantCheck(t, "two PNots, one the Tail, Within 0", book(), api.Query{P: seq(a("a"), n("n"), a("b"), n("o"))}, api.ErrForm)
	wantCheck(t, "a Tail with a condition", book(), api.Query{P: tail, Within: 1, Where: []api.Expr{less("n", "a")}}, api.OK)
}

func TestCheckTypes(t *testing.T) {
	for at := range 5 {
		if at != 3 {
			wantWith(t, fmt.Sprint("an unknown Type at ", at), api.ErrNone, func(q *api.Query) { q.P.L[at].Type = "zz" })
			wantWith(t, fmt.Sprint("a Type by the name of a field at ", at), api.ErrNone, func(q *api.Query) { q.P.L[at].Type = "x" })
		}
	}
	for at := range 3 {
		wantWith(t, fmt.Sprint("an unknown Type within, at ", at), api.ErrNone, func(q *api.Query) { q.P.L[3].L[0].L[at].Type = "zz" })
	}
	wantCheck(t, "an unknown Type alone", book(), api.Query{P: atom("a", "zz")}, api.ErrNone)
	wantCheck(t, "an unknown Type of a Var that stands twice", book(), api.Query{P: or(atom("a", "zz"), many("a", "zz"))}, api.ErrNone)
}

func TestCheckTypingOfConditions(t *testing.T) {
	for what, x := range map[string]struct {
		x api.Expr
		e api.Errno
	}{
		"a constant bool":          {yes, api.OK},
		"a bool field":             {field("a", "b"), api.OK},
		"a field of one alone":     {op(api.XEq, field("m", "only"), num(1)), api.OK},
		"texts":                    {op(api.XLt, field("a", "k"), field("m", "k")), api.OK},
		"a null":                   {op(api.XEq, field("a", "k"), api.Expr{K: api.XConst}), api.OK},
		"a number":                 {num(1), api.ErrType},
		"a field that is a number": {field("a", "x"), api.ErrType},
		"a null alone":             {api.Expr{K: api.XConst}, api.ErrType},
		"a number and a text":      {op(api.XEq, field("a", "x"), field("a", "k")), api.ErrType},
		"bools by order":           {op(api.XLt, field("a", "b"), field("a", "b")), api.ErrType},
		"an unknown Var":           {less("a", "z"), api.ErrNone},
		"an unknown field":         {op(api.XEq, field("a", "zz"), num(1)), api.ErrNone},
		"a field of another Type":  {op(api.XEq, field("a", "only"), num(1)), api.ErrNone},
		"a Var by a Type's name":   {less("buy", "buy"), api.ErrNone},
	} {
		for at := range 4 {
			wantWith(t, fmt.Sprintf("%s, at %d", what, at), x.e, func(q *api.Query) { q.Where[at] = x.x })
		}
		wantWith(t, what+", alone", x.e, func(q *api.Query) { q.Where = []api.Expr{x.x} })
	}
}

// TestCheckVarsOfConditions asks full for each set of up to four of its Vars, by a list of what may be.
func TestCheckVarsOfConditions(t *testing.T) {
	vars := []string{"a", "b", "c", "d", "m", "n", "o", "t"}
	ahead := map[string]string{"n": "a", "o": "b", "t": "abcdm"}
	may := func(set string) bool {
		if strings.Contains(set, "m") && strings.Contains(set, "d") {
			return false
		}
		for not, l := range ahead {
			if strings.Contains(set, not) && strings.Trim(set, l+not) != "" {
				return false
			}
		}
		return true
	}
	ok := 0
	for bits := range 1 << len(vars) {
		var l []string
		for i, v := range vars {
			if bits>>i&1 == 1 {
				l = append(l, v)
			}
		}
		want := api.ErrForm
		if may(strings.Join(l, "")) {
			want = api.OK
			ok++
		}
		for range 2 {
			wantWith(t, fmt.Sprint("a condition with ", l), want, func(q *api.Query) { q.Where = []api.Expr{about(l...)} })
			wantWith(t, fmt.Sprint("a last condition with ", l), want, func(q *api.Query) { q.Where = append(q.Where, op(api.XNot, about(l...))) })
			slices.Reverse(l)
		}
	}
	if ok < 20 {
		t.Errorf("only %d sets may be", ok)
	}
}

func TestCheckVarsTogether(t *testing.T) {
	type s = []string
	two := or(seq(and(a("a"), a("c")), n("n"), a("b")), seq(a("a"), n("n"), a("c")))
	turned := or(seq(a("a"), n("n"), a("b")), seq(a("b"), n("n"), a("a")))
	late, soon := or(a("a"), m("a")), or(m("a"), a("a"))
	for i, x := range []struct {
		p    api.Pat
		vars s
		e    api.Errno
	}{
		{two, s{"n"}, api.OK},
		{two, s{"n", "a"}, api.OK},
		{two, s{"n", "c"}, api.ErrForm}, // ahead of one alone
		{two, s{"n", "b"}, api.ErrForm},
		{two, s{"n", "a", "c"}, api.ErrForm},
		{two, s{"a", "b", "c"}, api.OK},
		{turned, s{"n"}, api.OK},
		{turned, s{"n", "a"}, api.ErrForm},
		{turned, s{"n", "b"}, api.ErrForm},
		{turned, s{"a", "b"}, api.OK},
		{seq(a("a"), n("n"), a("b"), n("o"), a("c")), s{"n", "o"}, api.ErrForm},
		{seq(a("a"), n("n"), a("b"), n("o"), a("c")), s{"o", "a", "b"}, api.OK},
		{seq(a("a"), n("n"), a("b"), n("o"), a("c")), s{"n", "a", "b"}, api.ErrForm},
		{seq(a("a"), n("n"), a("b"), n("o"), a("c")), s{"a", "b", "c"}, api.OK},
		{seq(m("a"), n("n"), m("b"), a("c")), s{"a"}, api.OK},
		{seq(m("a"), n("n"), m("b"), a("c")), s{"a", "c"}, api.OK},
		{seq(m("a"), n("n"), m("b"), a("c")), s{"a", "b"}, api.ErrForm},
		{seq(m("a"), n("n"), m("b"), a("c")), s{"n", "a"}, api.OK},
		{seq(m("a"), n("n"), m("b"), a("c")), s{"n", "b"}, api.ErrForm},
		{seq(m("a"), m("b"), n("n"), a("c")), s{"n", "a", "b"}, api.ErrForm},
		{seq(m("a"), m("b"), n("n"), a("c")), s{"n", "b"}, api.OK},
		{seq(late, m("b")), s{"a", "b"}, api.ErrForm}, // a is one, but not where it stands first
		{seq(soon, m("b")), s{"a", "b"}, api.ErrForm},
		{seq(m("b"), late), s{"a", "b"}, api.ErrForm},
		{seq(late, a("b")), s{"a", "b"}, api.OK},
		{seq(late, m("b")), s{"a"}, api.OK}, // one Var, though two nodes
		{or(m("a"), seq(m("a"), a("b"))), s{"a", "b"}, api.OK},
		{or(m("a"), m("b")), s{"a", "b"}, api.ErrForm}, // never both, but two all the same
		{or(m("a"), a("b")), s{"a", "b"}, api.OK},
		{and(m("a"), m("b")), s{"a", "b"}, api.ErrForm},
		{seq(a("a"), or(seq(a("b"), n("n"), a("c")), a("d"))), s{"n", "a"}, api.ErrForm}, // ahead in another PSeq
		{seq(a("a"), or(seq(a("b"), n("n"), a("c")), a("d"))), s{"n", "b"}, api.OK},
		{seq(a("a"), or(seq(a("b"), n("n"), a("c")), a("d"))), s{"n", "d"}, api.ErrForm},
		{or(seq(a("a"), n("n"), a("b")), seq(a("c"), n("o"), a("d"))), s{"n", "o"}, api.ErrForm},
		{or(seq(a("a"), n("n"), a("b")), seq(a("a"), n("o"), a("b"))), s{"n", "o"}, api.ErrForm},
		{or(seq(a("a"), n("n"), a("b")), seq(a("c"), n("o"), a("d"))), s{"n", "c"}, api.ErrForm},
		{seq(or(seq(a("a"), n("n"), a("b")), a("c")), n("o"), a("d")), s{"o", "a", "b", "c"}, api.OK},
		{seq(or(seq(a("a"), n("n"), a("b")), a("c")), n("o"), a("d")), s{"o", "n"}, api.ErrForm},
	} {
		for range 2 {
			wantCheck(t, fmt.Sprint("row ", i), book(), api.Query{P: x.p, Where: []api.Expr{about(x.vars...)}}, x.e)
			wantCheck(t, fmt.Sprintf("row %d, behind others", i), book(), api.Query{P: x.p, Where: []api.Expr{yes, about(x.vars[0]), about(x.vars...), yes}}, x.e)
			slices.Reverse(x.vars)
		}
	}
	apart := seq(m("a"), n("n"), m("b"), n("o"), a("c"))
	wantCheck(t, "Vars that may not be together, apart", book(), api.Query{P: apart, Where: []api.Expr{about("a"), about("b"), about("n"), about("o")}}, api.OK)
}

func TestCheckKey(t *testing.T) {
	type s = []string
	for i, x := range []struct {
		types s
		key   string
		e     api.Errno
	}{
		{s{"buy", "sell", "buy"}, "k", api.OK},
		{s{"buy", "sell", "tick"}, "x", api.OK},
		{s{"tick", "buy", "sell"}, "b", api.OK},
		{s{"tick", "tick", "tick"}, "k", api.OK},
		{s{"sell", "sell", "sell"}, "only", api.OK},
		{s{"bare", "bare", "bare"}, "", api.OK},
		{s{"buy", "bare", "tick"}, "", api.OK},
		{s{"buy", "sell", "tick"}, "zz", api.ErrNone},
		{s{"bare", "bare", "bare"}, "k", api.ErrNone},
		{s{"sell", "buy", "buy"}, "only", api.ErrNone}, // of the first alone
		{s{"sell", "sell", "buy"}, "only", api.ErrNone},
		{s{"buy", "sell", "sell"}, "only", api.ErrNone}, // of all but the first
		{s{"buy", "sell", "bare"}, "k", api.ErrNone},
		{s{"bare", "buy", "tick"}, "k", api.ErrNone},
		{s{"buy", "tick", "buy"}, "k", api.ErrType},
		{s{"buy", "buy", "tick"}, "k", api.ErrType},
		{s{"tick", "buy", "buy"}, "k", api.ErrType},
		{s{"tick", "tick", "sell"}, "k", api.ErrType},
		{s{"buy", "tick", "bare"}, "k", api.ErrType}, // the first that is wrong counts
		{s{"buy", "bare", "tick"}, "k", api.ErrNone},
		{s{"tick", "buy", "bare"}, "k", api.ErrType},
		{s{"tick", "bare", "buy"}, "k", api.ErrNone},
		{s{"buy", "sell", "buy"}, "a", api.ErrNone},
		{s{"buy", "sell", "buy"}, "buy", api.ErrNone},
	} {
		u, v, w := x.types[0], x.types[1], x.types[2]
		for j, p := range []api.Pat{
			seq(atom("a", u), atom("b", v), atom("c", w)),
			seq(atom("z", u), atom("y", v), atom("x", w)), // not by names
			seq(many("c", u), not("b", v), many("a", w)),
			and(atom("c", u), or(many("a", v), atom("b", w))),
			or(seq(atom("c", u), not("n", v), atom("a", w)), atom("b", u)),
			or(and(many("c", u), atom("b", v)), and(atom("a", w), atom("c", u))),
		} {
			wantCheck(t, fmt.Sprintf("row %d, pattern %d", i, j), book(), api.Query{P: p, Key: x.key}, x.e)
		}
		wantCheck(t, fmt.Sprint("row of a Tail ", i), book(), api.Query{P: seq(atom("a", u), atom("b", v), not("n", w)), Key: x.key, Within: 1}, x.e)
	}
	for k := api.VBool; k <= api.VText; k++ {
		for o := api.VBool; o <= api.VText; o++ {
			want := api.OK
			if k != o {
				want = api.ErrType
			}
			l := []api.Schema{made("s", has("p", api.VInt), has("key", k)), made("t", has("key", o), has("p", api.VText))}
			wantCheck(t, fmt.Sprintf("kinds %d and %d", k, o), l, api.Query{P: seq(atom("a", "s"), atom("b", "t")), Key: "key"}, want)
		}
	}
}

func TestCheckItems(t *testing.T) {
	p := seq(atom("a", "buy"), not("n", "sell"), many("m", "sell"), or(atom("c", "bare"), many("d", "tick")))
	ask := func(k int, v, f string, want api.Errno) {
		t.Helper()
		x := item("i", k, v, f)
		what := fmt.Sprintf("item %+v", x)
		wantCheck(t, what, book(), api.Query{P: p, Items: []api.Item{x}}, want)
		wantCheck(t, what+", last", book(), api.Query{P: p, Items: []api.Item{item("p", api.ICount, "c", ""), item("q", api.ISum, "a", "x"), x}}, want)
		wantCheck(t, what+", first", book(), api.Query{P: p, Items: []api.Item{x, item("p", api.ICount, "c", ""), item("q", api.ISum, "a", "x")}}, want)
	}
	for _, k := range []int{api.IFirst, api.ILast, api.ISum} {
		for v, fields := range map[string][]api.Field{"a": book()[1].Fields, "m": book()[2].Fields, "c": nil, "d": book()[3].Fields} {
			for _, f := range fields {
				want := api.OK
				if k == api.ISum && f.K != api.VInt {
					want = api.ErrType
				}
				ask(k, v, f.Name, want)
			}
			ask(k, v, "zz", api.ErrNone)
			ask(k, v, "buy", api.ErrNone)
		}
		ask(k, "a", "only", api.ErrNone)
		ask(k, "c", "x", api.ErrNone)
		for _, f := range []string{"x", "k", "b", "only", "zz"} {
			ask(k, "n", f, api.ErrNone)
			ask(k, "z", f, api.ErrNone)
			ask(k, "buy", f, api.ErrNone)
		}
	}
	for v, want := range map[string]api.Errno{"a": api.OK, "m": api.OK, "c": api.OK, "d": api.OK, "n": api.ErrNone, "z": api.ErrNone, "buy": api.ErrNone, "i": api.ErrNone} {
		ask(api.ICount, v, "", want)
	}
	tail := api.Query{P: seq(a("a"), n("n")), Within: 1}
	for k := api.IFirst; k <= api.ISum; k++ {
		x := item("i", k, "n", "x")
		if k == api.ICount {
			x.Field = ""
		}
		tail.Items = []api.Item{x}
		wantCheck(t, "an item of a Tail", book(), tail, api.ErrNone)
	}
}

func TestCheckItemsInOrder(t *testing.T) {
	none, kind, fine := item("p", api.ICount, "n", ""), item("q", api.ISum, "a", "k"), item("r", api.ICount, "a", "")
	field, other := item("s", api.ILast, "a", "zz"), item("u", api.IFirst, "z", "x")
	for i, x := range []struct {
		l []api.Item
		e api.Errno
	}{
		{[]api.Item{none, kind}, api.ErrNone},
		{[]api.Item{kind, none}, api.ErrType},
		{[]api.Item{fine, kind, none}, api.ErrType},
		{[]api.Item{fine, none, kind}, api.ErrNone},
		{[]api.Item{field, kind}, api.ErrNone},
		{[]api.Item{kind, field}, api.ErrType},
		{[]api.Item{other, kind}, api.ErrNone},
		{[]api.Item{kind, other, fine}, api.ErrType},
		{[]api.Item{fine, fine}, api.ErrArg},
	} {
		wantWith(t, fmt.Sprint("items ", i), x.e, func(q *api.Query) { q.Items = x.l })
	}
	wantWith(t, "a sum of a text of a PNot", api.ErrNone, func(q *api.Query) { q.Items = []api.Item{item("i", api.ISum, "n", "k")} })
}

// fault is one thing that is wrong. Each changes something of its own, so any of them may come together.
type fault struct {
	e      api.Errno
	change func(l *[]api.Schema, q *api.Query)
}

// faults has them in the order in which they are told.
func faults() []fault {
	type ls = *[]api.Schema
	return []fault{
		{api.ErrArg, func(l ls, q *api.Query) { *l = append(*l, api.Schema{}) }},
		{api.ErrLong, func(l ls, q *api.Query) { q.Items = append(q.Items, make([]api.Item, api.MaxItems)...) }},
		{api.ErrArg, func(l ls, q *api.Query) { q.Mode = 3 }},
		{api.ErrForm, func(l ls, q *api.Query) { q.P.L[3].L[1].Var = "a" }},
		{api.ErrForm, func(l ls, q *api.Query) { q.Within = 0 }},
		{api.ErrNone, func(l ls, q *api.Query) { q.P.L[4].Type = "zz" }},
		{api.ErrType, func(l ls, q *api.Query) { q.Where[0] = op(api.XAdd, field("n", "x"), field("o", "x")) }},
		{api.ErrForm, func(l ls, q *api.Query) { q.Where[1] = less("n", "m") }},
		{api.ErrNone, func(l ls, q *api.Query) { q.Where[2] = less("n", "z") }},
		{api.ErrForm, func(l ls, q *api.Query) { q.Where[3] = less("m", "d") }},
		{api.ErrType, func(l ls, q *api.Query) { q.P.L[3].L[0].L[0].Type = "tick" }}, // the Key is of another kind
		{api.ErrNone, func(l ls, q *api.Query) { q.P.L[3].L[0].L[2].Type = "keyless" }},
		{api.ErrType, func(l ls, q *api.Query) { q.Items[0] = item("f", api.ISum, "a", "k") }},
		{api.ErrNone, func(l ls, q *api.Query) { q.Items[1].Var = "n" }},
		{api.ErrType, func(l ls, q *api.Query) { q.Items[2] = item("l", api.ISum, "m", "b") }},
	}
}

func TestCheckFaultsAtOnce(t *testing.T) {
	all := faults()
	for set := range 1 << len(all) {
		l, q, want := append(book(), made("keyless", has("x", api.VInt))), full(), api.OK
		for i, f := range all {
			if set>>i&1 == 1 {
				f.change(&l, &q)
				if want == api.OK {
					want = f.e
				}
			}
		}
		wantCheck(t, fmt.Sprintf("faults %b", set), l, q, want)
	}
}

func TestCheckTwoFaults(t *testing.T) {
	bad := append(book(), api.Schema{})
	wantCheck(t, "schemas that are refused and a query that is not right", bad, api.Query{P: a("a"), Where: make([]api.Expr, 17)}, api.ErrArg)
	wantCheck(t, "a query that is not right and a pattern that can't be made", book(), api.Query{P: n("a"), Mode: 3}, api.ErrArg)
	wantCheck(t, "a query that is too long and a pattern that can't be made", book(), api.Query{P: n("a"), Items: make([]api.Item, 17)}, api.ErrLong)
	wantCheck(t, "a pattern that can't be made, of an unknown Type", book(), api.Query{P: not("a", "zz")}, api.ErrForm)
	wantCheck(t, "a Tail without Within and an unknown Type", book(), api.Query{P: seq(atom("a", "zz"), n("n"))}, api.ErrForm)
	wantCheck(t, "a Tail with Within and an unknown Type", book(), api.Query{P: seq(atom("a", "zz"), n("n")), Within: 1}, api.ErrNone)
	wantCheck(t, "a Tail without Within and a condition of a wrong kind", book(), api.Query{P: seq(a("a"), n("n")), Where: []api.Expr{num(1)}}, api.ErrForm)
	wantCheck(t, "an unknown Type and a condition of a wrong kind", book(), api.Query{P: seq(a("a"), atom("b", "zz")), Where: []api.Expr{num(1)}}, api.ErrNone)
	p := seq(a("a"), n("n"), a("b"), n("o"), atom("c", "tick"))
	kind, nots, none := num(1), less("n", "o"), less("a", "z")
	ask := func(what string, want api.Errno, q api.Query) {
		t.Helper()
		q.P = p
		wantCheck(t, what, book(), q, want)
	}
	type s = []api.Expr
	ask("a condition of a wrong kind, then one of two PNots", api.ErrType, api.Query{Where: s{kind, nots}})
	ask("a condition of two PNots, then one of a wrong kind", api.ErrForm, api.Query{Where: s{nots, kind}})
	ask("a condition of two PNots, then an unknown Var", api.ErrForm, api.Query{Where: s{nots, none}})
	ask("an unknown Var, then a condition of two PNots", api.ErrNone, api.Query{Where: s{none, nots}})
	ask("an unknown Var, then a condition of a wrong kind", api.ErrNone, api.Query{Where: s{none, kind}})
	ask("a condition of a wrong kind and of two PNots", api.ErrType, api.Query{Where: s{op(api.XAdd, field("n", "x"), field("o", "x"))}})
	ask("a condition of two PNots and an unknown Var", api.ErrNone, api.Query{Where: s{about("n", "o", "z")}})
	ask("a condition of a PNot, one behind it, and an unknown field", api.ErrNone, api.Query{Where: s{op(api.XLt, field("n", "zz"), field("b", "x"))}})
	ask("a condition's fault and a Key's", api.ErrForm, api.Query{Where: s{nots}, Key: "zz"})
	ask("a condition's other fault and a Key's", api.ErrType, api.Query{Where: s{kind}, Key: "zz"})
	ask("a condition's fault and an item's", api.ErrForm, api.Query{Where: s{nots}, Items: []api.Item{item("i", api.ICount, "n", "")}})
	ask("a Key's fault and an item's", api.ErrType, api.Query{Key: "k", Items: []api.Item{item("i", api.ICount, "n", "")}})
	ask("a Key's other fault and an item's", api.ErrNone, api.Query{Key: "only", Items: []api.Item{item("i", api.ISum, "a", "k")}})
	ask("an item's fault alone", api.ErrNone, api.Query{Key: "x", Items: []api.Item{item("i", api.ICount, "n", "")}})
}

// reasons has why the model refuses queries at random; each must come.
func reasons() []string {
	return []string{"nothing", "no book", "no query", "not made", "a Tail without Within", "an unknown Type", "a condition of typing's error 5", "a condition of typing's error 6", "two PNots", "two PManys", "a PNot and one not ahead", "no Key", "a Key of another kind", "an item's Var that is none", "an item's Var that is a PNot's", "an item's field", "a sum of others than numbers"}
}

func TestCheckAsTheWordsSay(t *testing.T) {
	r := rand.New(rand.NewSource(142))
	got := map[string]int{}
	ask := func(l []api.Schema, q api.Query) {
		want := checked(l, q)
		got[want.why]++
		wantCheck(t, "one of many, "+want.why, l, q, want.e)
	}
	bad := noBooks()
	names := slices.Sorted(maps.Keys(bad))
	for range 30000 {
		q := tame(r)
		ask(book(), q)
		if r.Intn(20) == 0 {
			ask(bad[pick(r, names)], q)
			ask(book()[r.Intn(4):], q)
			q.P = wildPat(r, 4)
			ask(book(), q)
		}
	}
	for _, why := range reasons() {
		if got[why] < 100 {
			t.Errorf("too few for %s: %v", why, got)
		}
	}
}

// P14.3

// wantRight asks of a query that may be all that the layers below call right.
func wantRight(t *testing.T, l []api.Schema, q api.Query) {
	t.Helper()
	if query.Check(q) != api.OK || pat.Check(q.P) != api.OK || pat.Made(q.P) != api.OK || schema.Book(l) != api.OK {
		t.Errorf("%s may be, but is not right", short(q))
	}
	for _, x := range stands(q.P) {
		if part, ok := pat.At(q.P, x.way); !ok || pat.Check(part) != api.OK {
			t.Errorf("%s may be, but its part at %v is not right", short(q), x.way)
		}
		if _, ok := schema.Find(l, x.p.Type); len(x.p.L) == 0 && !ok {
			t.Errorf("%s may be, but its part at %v has no schema", short(q), x.way)
		}
	}
	vars, types, _ := pat.Vars(q.P)
	names, e := typing.New(l, vars, types)
	for _, x := range q.Where {
		if e != api.OK || expr.Check(x) != api.OK || names.Cond(x) != api.OK {
			t.Errorf("%s may be, but a condition is not right", short(q))
		}
	}
	for _, v := range query.Names(q) {
		if !slices.Contains(vars, v) {
			t.Errorf("%s may be, but its pattern has no %s", short(q), v)
		}
	}
	for _, x := range q.Items {
		if query.Check(api.Query{P: q.P, Items: []api.Item{x}}) != api.OK || well.Check(l, api.Query{P: q.P, Within: 1, Items: []api.Item{x}}) != api.OK {
			t.Errorf("%s may be, but an item is not right", short(q))
		}
	}
}

// parted has queries that have less than q: each of them may be, if q may.
func parted(q api.Query) []api.Query {
	l := []api.Query{{P: q.P, Within: q.Within}}
	for _, x := range q.Where {
		l = append(l, api.Query{P: q.P, Within: q.Within, Where: []api.Expr{x}})
	}
	return append(l, api.Query{P: q.P, Within: q.Within, Key: q.Key}, api.Query{P: q.P, Within: q.Within, Items: q.Items})
}

func TestWhatMayBeIsRight(t *testing.T) {
	wantRight(t, book(), full())
	r := rand.New(rand.NewSource(143))
	n := 0
	for range 10000 {
		q := tame(r)
		if well.Check(book(), q) != api.OK {
			continue
		}
		n++
		wantRight(t, book(), q)
		for _, x := range parted(q) {
			wantCheck(t, "a part of one that may be", book(), x, api.OK)
		}
	}
	if n < 2000 {
		t.Errorf("only %d may be", n)
	}
}

// TestWhatIsNotRightMayNotBe spoils queries that may be, by one thing each.
func TestWhatIsNotRightMayNotBe(t *testing.T) {
	for _, x := range stands(full().P) {
		for i, change := range []func(p *api.Pat){
			func(p *api.Pat) { p.K = 0 }, func(p *api.Pat) { p.Hi = -1 }, func(p *api.Pat) { p.Lo = -1 }, func(p *api.Pat) { p.Var += "A" }, func(p *api.Pat) { p.Type += "A" }, func(p *api.Pat) { p.L = append(slices.Clone(p.L), api.Pat{}) },
		} {
			q := copied(full())
			p := &q.P
			for _, at := range x.way {
				p = &p.L[at]
			}
			change(p)
			wantCheck(t, fmt.Sprintf("change %d at %v", i, x.way), book(), q, api.ErrArg)
		}
	}
	for at := range full().Where {
		for i, change := range []func(x *api.Expr){
			func(x *api.Expr) { x.K = 0 }, func(x *api.Expr) { x.Var = "a" }, func(x *api.Expr) { x.V.N = 1 }, func(x *api.Expr) { x.L[0].L = []api.Expr{{}} }, func(x *api.Expr) { x.L[1] = api.Expr{} },
		} {
			q := copied(full())
			change(&q.Where[at])
			wantCheck(t, fmt.Sprintf("change %d of condition %d", i, at), book(), q, api.ErrArg)
		}
	}
}

// P1: calls end, and none panics.

func TestNestedAsDeepAsMayBe(t *testing.T) {
	const deep = 1 << 16
	p, x := a("a"), field("v", "x")
	for i := range deep - 2 {
		p = seq(p, n("n"), atom(fmt.Sprint("d", i), "buy"))
		x = op(api.XAnd, x)
	}
	wantAhead := func(what string, p api.Pat, want ...string) {
		t.Helper()
		if got := well.Ahead(p, "n"); !slices.Equal(got, want) {
			t.Errorf("Ahead of %s: %.100q, want %q", what, got, want)
		}
	}
	wantAhead("PSeqs in one another, first", p, "a")
	p = seq(a("a"), n("n"))
	for range deep - 2 {
		p = seq(a("a"), p, n("n"))
	}
	wantAhead("PSeqs in one another, in between", p, "a")
	p = seq(a("a"), n("n"))
	for range deep - 2 {
		p = seq(a("a"), a("b"), n("n"), p)
	}
	wantAhead("PSeqs in one another, last", p, "a")
	if got := well.Guards(api.Query{Where: []api.Expr{yes, x}}, "v"); !slices.Equal(got, []int{1}) {
		t.Errorf("Guards of what is deep: %v", got)
	}
	if got := well.Check(book(), api.Query{P: p}); got != api.ErrLong {
		t.Errorf("Check of what is deep: %d", got)
	}
	if got := well.Check(book(), api.Query{P: a("a"), Where: []api.Expr{x}}); got != api.ErrLong {
		t.Errorf("Check of a deep condition: %d", got)
	}
}

func TestManyParts(t *testing.T) {
	const wide = 1 << 16
	var names []string
	one, all := seq(), or()
	for i := range wide {
		names = append(names, fmt.Sprintf("v%06d", i))
		one.L = append(one.L, a(names[i]), n("n"))
		all.L = append(all.L, seq(a(names[i]), a("a"), n("n")))
	}
	if got := well.Ahead(one, "n"); !slices.Equal(got, names[:1]) {
		t.Errorf("Ahead of many in one PSeq: %.100q", got)
	}
	if got := well.Ahead(all, "n"); !slices.Equal(got, []string{"a"}) {
		t.Errorf("Ahead of many PSeqs: %.100q", got)
	}
	one.L = append(one.L, n("o"))
	if got := well.Ahead(one, "o"); !slices.Equal(got, names) {
		t.Errorf("Ahead of the last of many: %.100q", got)
	}
	if got := well.Check(make([]api.Schema, wide), api.Query{P: one}); got != api.ErrArg {
		t.Errorf("Check of many schemas: %d", got)
	}
	if got := well.Check(book(), api.Query{P: all, Where: make([]api.Expr, wide), Items: make([]api.Item, wide)}); got != api.ErrLong {
		t.Errorf("Check of many parts: %d", got)
	}
}

// P3 and P4: nil and empty lists are the same; what is handed in is neither changed nor kept.

// roomy has q's lists with room behind them, in which other things lie.
func roomy(q api.Query) api.Query {
	q = copied(q)
	var roomyPat func(p *api.Pat)
	roomyPat = func(p *api.Pat) {
		for i := range p.L {
			roomyPat(&p.L[i])
		}
		p.L = append(slices.Clip(p.L), api.Pat{K: 77})[:len(p.L)]
	}
	var roomyExpr func(x *api.Expr)
	roomyExpr = func(x *api.Expr) {
		for i := range x.L {
			roomyExpr(&x.L[i])
		}
		x.L = append(slices.Clip(x.L), api.Expr{K: 77})[:len(x.L)]
	}
	roomyPat(&q.P)
	whole := api.Expr{L: q.Where}
	roomyExpr(&whole)
	q.Where = whole.L
	q.Items = append(slices.Clip(q.Items), api.Item{K: 77})[:len(q.Items)]
	return q
}

func roomIsLeft(q api.Query) bool {
	var patRoom func(p api.Pat) bool
	patRoom = func(p api.Pat) bool {
		return p.L[:len(p.L)+1][len(p.L)].K == 77 && !slices.ContainsFunc(p.L, func(x api.Pat) bool { return !patRoom(x) })
	}
	var exprRoom func(x api.Expr) bool
	exprRoom = func(x api.Expr) bool {
		return x.L[:len(x.L)+1][len(x.L)].K == 77 && !slices.ContainsFunc(x.L, func(y api.Expr) bool { return !exprRoom(y) })
	}
	return patRoom(q.P) && exprRoom(api.Expr{L: q.Where}) && q.Items[:len(q.Items)+1][len(q.Items)].K == 77
}

func TestWhatIsHandedIn(t *testing.T) {
	r := rand.New(rand.NewSource(144))
	for i := range 2000 {
		q := tame(r)
		if i == 0 {
			q = full()
		}
		l := book()
		l[0].Fields = []api.Field{}
		x, y := roomy(q), copied(q)
		want := checked(book(), q).e
		wantCheck(t, "one with empty lists", l, y, want)
		wantCheck(t, "one with room behind its lists", append(l, api.Schema{Name: "behind"})[:len(l)], x, want)
		for _, v := range query.Names(q) {
			wantAhead(t, "one with empty lists", y.P, v, aheadOf(q.P, v)...)
			wantAhead(t, "one with room behind its lists", x.P, v, aheadOf(q.P, v)...)
			wantGuards(t, "one with empty lists", y.Where, v, guardsOf(q, v)...)
			wantGuards(t, "one with room behind its lists", x.Where, v, guardsOf(q, v)...)
		}
		if !roomIsLeft(x) || said(x) != said(q) {
			t.Errorf("%s: what lies behind its lists is changed", short(q))
		}
	}
}

func FuzzWell(f *testing.F) {
	for i := range int64(8) {
		f.Add(i, int64(7), 1, "a", "x")
	}
	f.Fuzz(func(t *testing.T, seed, within int64, mode int, v, name string) {
		r := rand.New(rand.NewSource(seed))
		x, y := tame(r), tame(r)
		y.Within, y.Mode, y.Key = within, mode, name
		y.Items = append(y.Items, item(name, 1+r.Intn(4), v, name))
		z := api.Query{P: wildPat(r, 5), Where: []api.Expr{wildExpr(r, 4), wildExpr(r, 3)}}
		for _, q := range []api.Query{x, y, z} {
			wantCheck(t, "fuzz", book(), q, checked(book(), q).e)
			for _, w := range append(query.Names(q), v) {
				wantAhead(t, "fuzz", q.P, w, aheadOf(q.P, w)...)
				wantGuards(t, "fuzz", q.Where, w, guardsOf(q, w)...)
			}
		}
	})
}
