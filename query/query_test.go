package query_test

import (
	"fmt"
	"math"
	"math/rand"
	"slices"
	"strings"
	"testing"

	"haruspex/api"
	"haruspex/expr"
	"haruspex/pat"
	"haruspex/query"
)

var (
	most    = strings.Repeat("n", api.MaxName)
	good    = []string{"a", "z", "a1_", "z_9", "buy", most}
	noNames = []string{"A", "aB", "1", "_", "_a", "a b", "a.", "é", "a\x00", "a\xff", " ", most + "n"}
	names   = append([]string{"", "a", "b", "c", "ab", "a_", "a0"}, noNames...)
)

func atom(v, t string) api.Pat { return api.Pat{K: api.PAtom, Var: v, Type: t} }

func not(v, t string) api.Pat { return api.Pat{K: api.PNot, Var: v, Type: t} }

func many(v, t string) api.Pat { return api.Pat{K: api.PMany, Var: v, Type: t, Lo: 1} }

func row(k int, l ...api.Pat) api.Pat { return api.Pat{K: k, L: l} }

func seq(l ...api.Pat) api.Pat { return row(api.PSeq, l...) }

func num(n int64) api.Expr { return api.Expr{K: api.XConst, V: api.Value{K: api.VInt, N: n}} }

func field(v, f string) api.Expr { return api.Expr{K: api.XField, Var: v, Field: f} }

func op(k int, l ...api.Expr) api.Expr { return api.Expr{K: k, L: l} }

func less(v, w string) api.Expr { return op(api.XLt, field(v, "x"), field(w, "x")) }

func item(name string, k int, v, f string) api.Item {
	return api.Item{Name: name, K: k, Var: v, Field: f}
}

// or has n nodes; it is right if n is 3 or more.
func or(n int) api.Expr {
	x := op(api.XOr)
	for i := range n - 1 {
		x.L = append(x.L, num(int64(i)))
	}
	return x
}

// conditions has n of one node each.
func conditions(n int) []api.Expr {
	l := make([]api.Expr, n)
	for i := range l {
		l[i] = num(int64(i))
	}
	return l
}

// items has n that are right.
func items(n int) []api.Item {
	l := make([]api.Item, n)
	for i := range l {
		l[i] = item(fmt.Sprint("n", i), 1+i%4, "a", "x")
		if l[i].K == api.ICount {
			l[i].Field = ""
		}
	}
	return l
}

// few is the least query that is right.
func few() api.Query { return api.Query{P: atom("a", "buy")} }

// full is right and has all clauses.
func full() api.Query {
	return api.Query{
		P:      seq(atom("a", "buy"), not("b", "sell"), row(api.POr, many("c", "buy"), row(api.PAnd, atom("d", "buy"), atom("e", "sell")))),
		Where:  []api.Expr{less("a", "c"), op(api.XNot, less("b", "a")), op(api.XOr, less("d", "e"), op(api.XEq, field("e", "k"), num(7)))},
		Key:    "k",
		Mode:   api.MNear,
		Within: 10,
		Items:  []api.Item{item("f", api.IFirst, "a", "x"), item("l", api.ILast, "c", "x"), item("n", api.ICount, "c", ""), item("s", api.ISum, "d", "y")},
	}
}

// with is full with one change.
func with(change func(q *api.Query)) api.Query {
	q := full()
	change(&q)
	return q
}

func copiedPat(p api.Pat) api.Pat {
	l := make([]api.Pat, len(p.L))
	for i, x := range p.L {
		l[i] = copiedPat(x)
	}
	p.L = l
	return p
}

func copiedExpr(x api.Expr) api.Expr {
	l := make([]api.Expr, len(x.L))
	for i, y := range x.L {
		l[i] = copiedExpr(y)
	}
	x.L = l
	return x
}

// copied has empty lists where q has nil ones.
func copied(q api.Query) api.Query {
	l := make([]api.Expr, len(q.Where))
	for i, x := range q.Where {
		l[i] = copiedExpr(x)
	}
	q.P, q.Where = copiedPat(q.P), l
	q.Items = append([]api.Item{}, q.Items...)
	return q
}

// bare has nil lists where q has empty ones.
func bare(q api.Query) api.Query {
	q = copied(q)
	var plainPat func(p *api.Pat)
	plainPat = func(p *api.Pat) {
		for i := range p.L {
			plainPat(&p.L[i])
		}
		if len(p.L) == 0 {
			p.L = nil
		}
	}
	var plainExpr func(x *api.Expr)
	plainExpr = func(x *api.Expr) {
		for i := range x.L {
			plainExpr(&x.L[i])
		}
		if len(x.L) == 0 {
			x.L = nil
		}
	}
	plainPat(&q.P)
	whole := api.Expr{L: q.Where}
	plainExpr(&whole)
	q.Where = whole.L
	if len(q.Items) == 0 {
		q.Items = nil
	}
	return q
}

func tellPat(b *strings.Builder, p api.Pat) {
	fmt.Fprintf(b, "(%d %q %q %d %d %d", p.K, p.Var, p.Type, p.Lo, p.Hi, len(p.L))
	for _, x := range p.L {
		tellPat(b, x)
	}
	b.WriteByte(')')
}

func tellExpr(b *strings.Builder, x api.Expr) {
	fmt.Fprintf(b, "(%d %d %d %q %q %q %d", x.K, x.V.K, x.V.N, x.V.S, x.Var, x.Field, len(x.L))
	for _, y := range x.L {
		tellExpr(b, y)
	}
	b.WriteByte(')')
}

// said tells all fields of all nodes and items, so two queries are the same if this is.
func said(q api.Query) string {
	var b strings.Builder
	tellPat(&b, q.P)
	fmt.Fprintf(&b, " key %q mode %d within %d where %d", q.Key, q.Mode, q.Within, len(q.Where))
	for _, x := range q.Where {
		tellExpr(&b, x)
	}
	fmt.Fprintf(&b, " items %d", len(q.Items))
	for _, x := range q.Items {
		fmt.Fprintf(&b, "(%q %d %q %q)", x.Name, x.K, x.Var, x.Field)
	}
	return b.String()
}

func saidRow(l []api.Expr) string { return said(api.Query{Where: l}) }

func short(q api.Query) string { return fmt.Sprintf("%.600s", said(q)) }

// Models of the chapter's words, by other means.

func isName(s string) bool {
	for i, c := range []byte(s) {
		if !('a' <= c && c <= 'z' || i > 0 && ('0' <= c && c <= '9' || c == '_')) {
			return false
		}
	}
	return 1 <= len(s) && len(s) <= 32
}

func sizeOf(x api.Expr) int {
	n := 1
	for _, y := range x.L {
		n += sizeOf(y)
	}
	return n
}

// checked gathers all that is wrong, in the chapter's order; the first counts.
func checked(q api.Query) api.Errno {
	wrong := []api.Errno{pat.Check(q.P)}
	ask := func(e api.Errno, bad bool) {
		if bad {
			wrong = append(wrong, e)
		}
	}
	ask(2, len(q.Where) > 16)
	ask(2, len(q.Items) > 16)
	n, ands := 0, 0
	for _, x := range q.Where {
		wrong = append(wrong, expr.Check(x))
		n += sizeOf(x)
		if x.K == 16 {
			ands++
		}
	}
	ask(2, n > 99)
	ask(1, ands > 0)
	ask(1, q.Key != "" && !isName(q.Key))
	ask(1, !slices.Contains([]int{0, 1, 2}, q.Mode))
	ask(1, q.Within < 0 || q.Within > 1099511627776)
	for i, x := range q.Items {
		ask(1, !isName(x.Name) || !isName(x.Var) || !slices.Contains([]int{1, 2, 3, 4}, x.K))
		ask(1, (x.K == 3) != (x.Field == "") || x.K != 3 && !isName(x.Field))
		for _, y := range q.Items[:i] {
			ask(1, x.Name == y.Name)
		}
	}
	for _, e := range wrong {
		if e != 0 {
			return e
		}
	}
	return 0
}

func renamedVar(v string, from, to []string) string {
	if i := slices.Index(from, v); 0 <= i && i < len(to) {
		return to[i]
	}
	return v
}

// eachVar hands over all Vars of q, which it may change.
func eachVar(q *api.Query, do func(v *string)) {
	var inPat func(p *api.Pat)
	inPat = func(p *api.Pat) {
		if p.K == 1 || p.K == 5 || p.K == 6 {
			do(&p.Var)
		}
		for i := range p.L {
			inPat(&p.L[i])
		}
	}
	var inExpr func(x *api.Expr)
	inExpr = func(x *api.Expr) {
		if x.K == 2 {
			do(&x.Var)
		}
		for i := range x.L {
			inExpr(&x.L[i])
		}
	}
	inPat(&q.P)
	for i := range q.Where {
		inExpr(&q.Where[i])
	}
	for i := range q.Items {
		do(&q.Items[i].Var)
	}
}

func renamed(q api.Query, from, to []string) api.Query {
	q = copied(q)
	eachVar(&q, func(v *string) { *v = renamedVar(*v, from, to) })
	return q
}

func namesOf(q api.Query) []string {
	var l []string
	q = copied(q)
	eachVar(&q, func(v *string) {
		if !slices.Contains(l, *v) {
			l = append(l, *v)
		}
	})
	slices.SortFunc(l, strings.Compare)
	return l
}

// Queries at random.

func pick[T any](r *rand.Rand, l []T) T { return l[r.Intn(len(l))] }

func wildPat(r *rand.Rand, deep int) api.Pat {
	p := api.Pat{K: r.Intn(9) - 1, Var: pick(r, names), Lo: r.Intn(3) - 1, Hi: r.Intn(3) - 1}
	if r.Intn(2) == 0 {
		p.Type = pick(r, names)
	}
	for range r.Intn(4) {
		if deep > 1 {
			p.L = append(p.L, wildPat(r, deep-1))
		}
	}
	return p
}

func wildExpr(r *rand.Rand, deep int) api.Expr {
	x := api.Expr{K: r.Intn(20) - 1}
	if r.Intn(2) == 0 {
		x.K = api.XField
	}
	if r.Intn(2) == 0 {
		x.Var, x.Field = pick(r, names), pick(r, names)
	}
	if r.Intn(4) == 0 {
		x.V = api.Value{K: r.Intn(5), N: int64(r.Intn(3)), S: pick(r, names)}
	}
	for range r.Intn(4) {
		if deep > 1 {
			x.L = append(x.L, wildExpr(r, deep-1))
		}
	}
	return x
}

// wild may be anything: nearly none of these is right.
func wild(r *rand.Rand) api.Query {
	q := api.Query{P: wildPat(r, 1+r.Intn(4)), Mode: r.Intn(5) - 1, Within: int64(r.Intn(5) - 1), Key: pick(r, names)}
	for range r.Intn(4) {
		q.Where = append(q.Where, wildExpr(r, 1+r.Intn(4)))
	}
	for range r.Intn(4) {
		q.Items = append(q.Items, item(pick(r, names), r.Intn(6), pick(r, names), pick(r, names)))
	}
	return q
}

// tame is right.
func tame(r *rand.Rand) api.Query {
	v := func() string { return fmt.Sprint("v", r.Intn(6)) }
	q := api.Query{P: atom(v(), "buy"), Mode: r.Intn(3), Within: pick(r, []int64{0, 1, 7, api.MaxWithin}), Key: pick(r, []string{"", "k", most})}
	if r.Intn(2) == 0 {
		q.P = seq(q.P, not(v(), "sell"), row(api.POr, many(v(), "buy"), row(api.PAnd, atom(v(), "buy"), atom(v(), "sell"))))
	}
	for range r.Intn(6) {
		q.Where = append(q.Where, pick(r, []api.Expr{num(3), less(v(), v()), op(api.XNot, less(v(), v())), op(api.XOr, less(v(), v()), op(api.XAnd, field(v(), "x"), field(v(), v())))}))
	}
	for i := range r.Intn(6) {
		x := item(fmt.Sprint("n", i), 1+r.Intn(4), v(), "x")
		if x.K == api.ICount {
			x.Field = ""
		}
		q.Items = append(q.Items, x)
	}
	return q
}

// changed differs from q in one field of its own, of a node or of an item, or in one part more or less.
func changed(r *rand.Rand, q api.Query) api.Query {
	q = copied(q)
	switch k := r.Intn(12); {
	case k == 0:
		q.Key += pick(r, []string{"a", "0", "A", "é"})
	case k == 1:
		q.Mode += pick(r, []int{-3, -1, 1, 3})
	case k == 2:
		q.Within += pick(r, []int64{-8, -1, 1, 1 << 41})
	case k == 3:
		q.P = seq(q.P, atom("a", "buy"))
	case k == 4:
		q.Where = append(q.Where, pick(r, []api.Expr{num(1), {}, op(api.XAnd, num(1), num(2)), or(98), or(99), or(100), or(101)}))
	case k == 5:
		q.Items = append(q.Items, item(pick(r, []string{"n0", "q", "Q"}), 1, "a", "x"))
	case k == 6 && len(q.Where) > 0:
		pick(r, []*api.Expr{&q.Where[0], &q.Where[len(q.Where)-1]}).K = r.Intn(19)
	case k == 7 && len(q.Where) > 0:
		q.Where = q.Where[1:]
	case k == 8 && len(q.Items) > 0:
		q.Items = q.Items[1:]
	case k == 9 && len(q.Items) > 0:
		x := &q.Items[r.Intn(len(q.Items))]
		*pick(r, []*string{&x.Name, &x.Var, &x.Field}) += pick(r, []string{"a", "A"})
	case k == 10 && len(q.Items) > 0:
		q.Items[r.Intn(len(q.Items))].K += pick(r, []int{-4, -1, 1, 4})
	default:
		q.P.Type += pick(r, []string{"a", "A"})
	}
	return q
}

// corpus has queries of all sorts, each in the same order at each call.
func corpus() []api.Query {
	r := rand.New(rand.NewSource(13))
	all := []api.Query{{}, few(), full()}
	for range 400 {
		q := tame(r)
		all = append(all, wild(r), q, changed(r, q), bare(q))
	}
	return all
}

func wantCheck(t *testing.T, what string, q api.Query, want api.Errno) {
	t.Helper()
	was := said(q)
	if got := query.Check(q); got != want {
		t.Errorf("Check of %s, %s: %d, want %d", what, short(q), got, want)
	}
	if said(q) != was {
		t.Errorf("Check of %s changed it", what)
	}
}

// wantArg asks that full is refused just by that change.
func wantArg(t *testing.T, what string, change func(q *api.Query)) {
	t.Helper()
	wantCheck(t, what, with(change), api.ErrArg)
}

func wantOK(t *testing.T, what string, change func(q *api.Query)) {
	t.Helper()
	wantCheck(t, what, with(change), api.OK)
}

// P13.1

func TestCheckLetsBe(t *testing.T) {
	wantCheck(t, "few", few(), api.OK)
	wantCheck(t, "full", full(), api.OK)
	wantCheck(t, "full with empty lists", copied(full()), api.OK)
	wantCheck(t, "few with empty lists", copied(few()), api.OK)
	wantOK(t, "no conditions", func(q *api.Query) { q.Where = nil })
	wantOK(t, "no items", func(q *api.Query) { q.Items = nil })
	wantOK(t, "a pattern that is right, but not well made", func(q *api.Query) { q.P = seq(not("a", "x"), atom("a", "y")) })
	wantOK(t, "Vars that the pattern has not", func(q *api.Query) { q.P = atom("z", "buy") })
	wantOK(t, "a condition twice", func(q *api.Query) { q.Where = append(q.Where, q.Where...) })
	wantOK(t, "a condition that is no bool", func(q *api.Query) { q.Where = []api.Expr{num(1), field("a", "x")} })
	wantOK(t, "an XAnd below", func(q *api.Query) {
		q.Where = []api.Expr{op(api.XNot, op(api.XAnd, num(1), num(2))), op(api.XOr, op(api.XAnd, num(1), num(2)), num(3))}
	})
	wantOK(t, "an item's names that are alike", func(q *api.Query) { q.Items = []api.Item{item("a", api.ISum, "a", "a")} })
	wantOK(t, "items that are alike but for their Names", func(q *api.Query) {
		q.Items = []api.Item{item("a", api.ISum, "v", "x"), item("b", api.ISum, "v", "x")}
	})
}

func TestCheckPattern(t *testing.T) {
	wantCheck(t, "the zero query", api.Query{}, api.ErrArg)
	deep := atom("a", "buy")
	for i := range api.MaxDeep {
		deep = row(api.PSeq+i%2, deep, atom("b", "buy"))
	}
	var wide []api.Pat
	for range api.MaxNodes {
		wide = append(wide, atom("a", "buy"))
	}
	for i, p := range []api.Pat{{}, atom("A", "buy"), atom("a", ""), seq(atom("a", "x")), {K: 7}, {K: api.PMany, Var: "a", Type: "x"}, deep, seq(wide...), seq(wide[1:]...), deep.L[0]} {
		wantCheck(t, fmt.Sprint("pattern ", i), with(func(q *api.Query) { q.P = p }), pat.Check(p))
	}
	wantCheck(t, "a zero pattern", with(func(q *api.Query) { q.P = api.Pat{} }), api.ErrArg)
	wantCheck(t, "a pattern that is too deep", with(func(q *api.Query) { q.P = deep }), api.ErrLong)
	wantCheck(t, "a pattern as deep as may be", with(func(q *api.Query) { q.P = deep.L[0] }), api.OK)
	wantCheck(t, "a pattern of too many nodes", with(func(q *api.Query) { q.P = seq(wide...) }), api.ErrLong)
	wantCheck(t, "a pattern of as many nodes as may be", with(func(q *api.Query) { q.P = seq(wide[1:]...) }), api.OK)
}

func TestCheckHowManyConditions(t *testing.T) {
	for _, n := range []int{0, 1, 2, api.MaxWhere - 1, api.MaxWhere} {
		wantOK(t, fmt.Sprint(n, " conditions"), func(q *api.Query) { q.Where = conditions(n) })
	}
	for _, n := range []int{api.MaxWhere + 1, api.MaxWhere + 2, 99, 100, 1 << 16} {
		wantCheck(t, "too many conditions", with(func(q *api.Query) { q.Where = conditions(n) }), api.ErrLong)
		wantCheck(t, "too many conditions that are not right", with(func(q *api.Query) { q.Where = make([]api.Expr, n) }), api.ErrLong)
	}
	wantCheck(t, "MaxWhere conditions that are not right", with(func(q *api.Query) { q.Where = make([]api.Expr, api.MaxWhere) }), api.ErrArg)
}

func TestCheckHowManyItems(t *testing.T) {
	for _, n := range []int{0, 1, 2, api.MaxItems - 1, api.MaxItems} {
		wantOK(t, fmt.Sprint(n, " items"), func(q *api.Query) { q.Items = items(n) })
	}
	for _, n := range []int{api.MaxItems + 1, api.MaxItems + 2, 100, 1 << 16} {
		wantCheck(t, "too many items", with(func(q *api.Query) { q.Items = items(n) }), api.ErrLong)
		wantCheck(t, "too many items that are not right", with(func(q *api.Query) { q.Items = make([]api.Item, n) }), api.ErrLong)
	}
	wantCheck(t, "MaxItems items that are not right", with(func(q *api.Query) { q.Items = make([]api.Item, api.MaxItems) }), api.ErrArg)
	wantCheck(t, "as many conditions and items as may be", with(func(q *api.Query) { q.Where, q.Items = conditions(api.MaxWhere), items(api.MaxItems) }), api.OK)
	wantCheck(t, "too many of both", with(func(q *api.Query) { q.Where, q.Items = conditions(api.MaxWhere+1), items(api.MaxItems+1) }), api.ErrLong)
}

func TestCheckHowManyNodes(t *testing.T) {
	for _, n := range []int{3, 50, api.MaxExpr - 2, api.MaxExpr - 1} {
		wantOK(t, fmt.Sprint("a condition of ", n), func(q *api.Query) { q.Where = []api.Expr{or(n)} })
	}
	for _, n := range []int{api.MaxExpr, api.MaxExpr + 1, api.MaxExpr + 2, 1 << 16} {
		wantCheck(t, fmt.Sprint("a condition of ", n), with(func(q *api.Query) { q.Where = []api.Expr{or(n)} }), api.ErrLong)
	}
	for parts := 2; parts <= api.MaxWhere; parts++ {
		for n := api.MaxExpr - 3; n <= api.MaxExpr+3; n++ {
			want := api.OK
			if n > api.MaxExpr-1 {
				want = api.ErrLong
			}
			for _, at := range []int{0, parts / 2, parts - 1} {
				l := conditions(parts)
				l[at] = or(n - parts + 1)
				wantCheck(t, fmt.Sprintf("%d conditions, %d nodes, most of them at %d", parts, n, at), with(func(q *api.Query) { q.Where = l }), want)
			}
		}
	}
	stairs := num(1)
	for sizeOf(stairs) < api.MaxExpr-1 {
		stairs = op(api.XAdd, stairs, num(2))
	}
	wantOK(t, "a deep condition of MaxExpr - 1 nodes", func(q *api.Query) { q.Where = []api.Expr{stairs} })
	wantCheck(t, "a deep condition of MaxExpr nodes", with(func(q *api.Query) { q.Where = []api.Expr{op(api.XNot, stairs)} }), api.ErrLong)
	wantCheck(t, "a deep condition and one more", with(func(q *api.Query) { q.Where = []api.Expr{num(1), stairs} }), api.ErrLong)
}

func TestCheckConditions(t *testing.T) {
	for i, x := range []api.Expr{{}, {K: 18}, {K: -1}, op(api.XNot), op(api.XOr, num(1)), op(api.XAnd), op(api.XLt, num(1)), field("A", "x"), field("a", ""), {K: api.XConst, V: api.Value{N: 1}}, {K: api.XField, Var: "a", Field: "x", L: []api.Expr{num(1)}}, op(api.XNot, api.Expr{})} {
		for at := range 3 {
			wantArg(t, fmt.Sprintf("condition %d at %d", i, at), func(q *api.Query) { q.Where[at] = x })
		}
	}
	for at := range 3 {
		wantArg(t, fmt.Sprint("an XAnd at ", at), func(q *api.Query) { q.Where[at] = op(api.XAnd, num(1), num(2)) })
	}
	wantArg(t, "an XAnd alone", func(q *api.Query) { q.Where = []api.Expr{op(api.XAnd, num(1), num(2), num(3))} })
	wantOK(t, "an XOr alone", func(q *api.Query) { q.Where = []api.Expr{op(api.XOr, num(1), num(2), num(3))} })
	long, bad := or(api.MaxExpr+1), op(api.XNot)
	wantCheck(t, "two errors, ErrLong first", with(func(q *api.Query) { q.Where = []api.Expr{num(1), long, bad} }), api.ErrLong)
	wantCheck(t, "two errors, ErrArg first", with(func(q *api.Query) { q.Where = []api.Expr{num(1), bad, long} }), api.ErrArg)
	wantCheck(t, "too many nodes ahead of one that is not right", with(func(q *api.Query) { q.Where = []api.Expr{or(99), num(1), bad} }), api.ErrArg)
	wantCheck(t, "too many nodes, one of them not right", with(func(q *api.Query) { q.Where = []api.Expr{bad, or(100)} }), api.ErrArg)
	wantCheck(t, "too many nodes and an XAnd", with(func(q *api.Query) { q.Where = []api.Expr{op(api.XAnd, num(1), num(2)), or(99)} }), api.ErrLong)
	wantCheck(t, "an XAnd of too many nodes in all", with(func(q *api.Query) { q.Where = []api.Expr{{K: api.XAnd, L: or(100).L}} }), api.ErrLong)
	wantCheck(t, "an XAnd of as many nodes as may be", with(func(q *api.Query) { q.Where = []api.Expr{{K: api.XAnd, L: or(99).L}} }), api.ErrArg)
}

func TestCheckKey(t *testing.T) {
	wantOK(t, "no Key", func(q *api.Query) { q.Key = "" })
	for _, s := range good {
		wantOK(t, "Key "+s, func(q *api.Query) { q.Key = s })
	}
	for _, s := range noNames {
		wantArg(t, fmt.Sprintf("Key %q", s), func(q *api.Query) { q.Key = s })
	}
}

func TestCheckMode(t *testing.T) {
	for _, m := range []int{api.MAny, api.MNear, api.MStrict} {
		wantOK(t, fmt.Sprint("Mode ", m), func(q *api.Query) { q.Mode = m })
	}
	for _, m := range []int{-1, 3, -2, 4, math.MaxInt, math.MinInt, 1 << 8, 1<<8 + 1, 1 << 32, -1 << 32} {
		wantArg(t, fmt.Sprint("Mode ", m), func(q *api.Query) { q.Mode = m })
	}
}

func TestCheckWithin(t *testing.T) {
	for _, n := range []int64{0, 1, 2, 1 << 32, api.MaxWithin - 1, api.MaxWithin} {
		wantOK(t, fmt.Sprint("Within ", n), func(q *api.Query) { q.Within = n })
	}
	for _, n := range []int64{-1, -2, -api.MaxWithin, api.MaxWithin + 1, api.MaxWithin * 2, math.MaxInt64, math.MinInt64} {
		wantArg(t, fmt.Sprint("Within ", n), func(q *api.Query) { q.Within = n })
	}
}

func TestCheckItems(t *testing.T) {
	for k := api.IFirst; k <= api.ISum; k++ {
		f := "x"
		if k == api.ICount {
			f = ""
		}
		for at := range 4 {
			set := func(x api.Item) func(q *api.Query) { return func(q *api.Query) { q.Items[at] = x } }
			for _, s := range good {
				wantOK(t, fmt.Sprintf("kind %d, Name %s", k, s), set(item(s, k, "a", f)))
				wantOK(t, fmt.Sprintf("kind %d, Var %s", k, s), set(item("q", k, s, f)))
			}
			for _, s := range append([]string{""}, noNames...) {
				wantArg(t, fmt.Sprintf("kind %d, Name %q", k, s), set(item(s, k, "a", f)))
				wantArg(t, fmt.Sprintf("kind %d, Var %q", k, s), set(item("q", k, s, f)))
			}
			for _, s := range noNames {
				wantArg(t, fmt.Sprintf("kind %d, Field %q", k, s), set(item("q", k, "a", s)))
			}
			for _, s := range good {
				if k == api.ICount {
					wantArg(t, "an ICount with Field "+s, set(item("q", k, "a", s)))
				} else {
					wantOK(t, fmt.Sprintf("kind %d with Field %s", k, s), set(item("q", k, "a", s)))
				}
			}
			if k == api.ICount {
				wantOK(t, "an ICount without Field", set(item("q", k, "a", "")))
			} else {
				wantArg(t, fmt.Sprintf("kind %d without Field", k), set(item("q", k, "a", "")))
			}
		}
	}
	for _, k := range []int{0, -1, 5, 6, math.MaxInt, math.MinInt, 1<<8 + 1, 1<<32 + 3, -3} {
		for at := range 4 {
			wantArg(t, fmt.Sprint("an item of kind ", k), func(q *api.Query) { q.Items[at] = item("q", k, "a", "x") })
			wantArg(t, fmt.Sprint("an item without Field of kind ", k), func(q *api.Query) { q.Items[at] = item("q", k, "a", "") })
		}
	}
	wantArg(t, "a zero item", func(q *api.Query) { q.Items = []api.Item{{}} })
}

func TestCheckItemsOfOneName(t *testing.T) {
	for i := range 16 {
		for j := range 16 {
			l := items(16)
			l[i].Name = l[j].Name
			want := api.OK
			if i != j {
				want = api.ErrArg
			}
			wantCheck(t, fmt.Sprintf("items %d and %d with one Name", i, j), with(func(q *api.Query) { q.Items = l }), want)
		}
	}
	wantArg(t, "an item twice", func(q *api.Query) { q.Items = append(q.Items, q.Items[0]) })
	wantArg(t, "two items, all but the Name unlike", func(q *api.Query) {
		q.Items = []api.Item{item("n", api.ICount, "a", ""), item("n", api.ISum, "b", "x")}
	})
}

// fault is one thing that is wrong with a query. Each changes something of its own, so any of them may come together.
type fault struct {
	e      api.Errno
	change func(q *api.Query)
}

// faults has them in the order in which they are told.
func faults() []fault {
	return []fault{
		{api.ErrArg, func(q *api.Query) { q.P.L[0].Var = "A" }},
		{api.ErrLong, func(q *api.Query) { q.Where = append(q.Where, conditions(api.MaxWhere-2)...) }},
		{api.ErrLong, func(q *api.Query) { q.Items = append(q.Items, items(api.MaxItems-3)...) }},
		{api.ErrArg, func(q *api.Query) { q.Where[0] = op(api.XNot) }},
		{api.ErrLong, func(q *api.Query) { q.Where[1] = or(api.MaxExpr) }},
		{api.ErrArg, func(q *api.Query) { q.Where[2] = op(api.XAnd, num(1), num(2)) }},
		{api.ErrArg, func(q *api.Query) { q.Key = "K" }},
		{api.ErrArg, func(q *api.Query) { q.Mode = 3 }},
		{api.ErrArg, func(q *api.Query) { q.Within = -1 }},
		{api.ErrArg, func(q *api.Query) { q.Items[0].K = 0 }},
		{api.ErrArg, func(q *api.Query) { q.Items[1].Name = q.Items[2].Name }},
	}
}

func TestCheckFaultsAtOnce(t *testing.T) {
	l := faults()
	for set := range 1 << len(l) {
		q, want := full(), api.OK
		for i, f := range l {
			if set>>i&1 == 1 {
				f.change(&q)
				if want == api.OK {
					want = f.e
				}
			}
		}
		wantCheck(t, fmt.Sprintf("faults %b", set), q, want)
	}
}

func TestCheckFaultsOfUnlikeErrors(t *testing.T) {
	var wide []api.Pat
	for range api.MaxNodes {
		wide = append(wide, atom("a", "buy"))
	}
	wantCheck(t, "a pattern that is not right and too many conditions", api.Query{P: atom("A", "x"), Where: conditions(17)}, api.ErrArg)
	wantCheck(t, "a pattern that is not right and too many items", api.Query{P: atom("A", "x"), Items: items(17)}, api.ErrArg)
	wantCheck(t, "a pattern that is not right and a condition that is too long", api.Query{P: atom("A", "x"), Where: []api.Expr{or(101)}}, api.ErrArg)
	wantCheck(t, "a pattern that is too long and a condition that is not right", api.Query{P: seq(wide...), Where: make([]api.Expr, 1)}, api.ErrLong)
	wantCheck(t, "a pattern that is too long and no Mode", api.Query{P: seq(wide...), Mode: -1}, api.ErrLong)
	wantCheck(t, "too many conditions, one not right", with(func(q *api.Query) { q.Where = append(conditions(16), api.Expr{}) }), api.ErrLong)
	wantCheck(t, "too many items and a condition that is not right", with(func(q *api.Query) { q.Where, q.Items = make([]api.Expr, 1), items(17) }), api.ErrLong)
	wantCheck(t, "too many items of one Name", with(func(q *api.Query) { q.Items = append(items(16), items(1)...) }), api.ErrLong)
	wantCheck(t, "a condition that is too long and no Key", with(func(q *api.Query) { q.Where, q.Key = []api.Expr{or(101)}, "K" }), api.ErrLong)
	wantCheck(t, "too many nodes and no Mode", with(func(q *api.Query) { q.Where, q.Mode = []api.Expr{or(100)}, 3 }), api.ErrLong)
	wantCheck(t, "too many nodes and a zero item", with(func(q *api.Query) { q.Where, q.Items = []api.Expr{or(99), num(1)}, make([]api.Item, 1) }), api.ErrLong)
}

func TestCheckAsTheWordsSay(t *testing.T) {
	got := map[api.Errno]int{}
	ask := func(q api.Query) {
		got[checked(q)]++
		wantCheck(t, "one of many", q, checked(q))
	}
	for _, q := range corpus() {
		ask(q)
	}
	r := rand.New(rand.NewSource(131))
	for range 20000 {
		q := tame(r)
		ask(q)
		x := changed(r, q)
		ask(x)
		ask(changed(r, changed(r, x)))
	}
	if got[0] < 1000 || got[1] < 1000 || got[2] < 1000 {
		t.Errorf("too few of one sort: %v", got)
	}
}

func wantSame(t *testing.T, what string, a, b api.Query, want bool) {
	t.Helper()
	wasA, wasB := said(a), said(b)
	if query.Same(a, b) != want || query.Same(b, a) != want {
		t.Errorf("Same of %s, %s and %s: %v and %v", what, short(a), short(b), query.Same(a, b), query.Same(b, a))
	}
	if said(a) != wasA || said(b) != wasB {
		t.Errorf("Same of %s changed one", what)
	}
}

func TestSame(t *testing.T) {
	wantSame(t, "zero ones", api.Query{}, api.Query{}, true)
	wantSame(t, "few", few(), few(), true)
	wantSame(t, "full", full(), full(), true)
	wantSame(t, "full and few", full(), few(), false)
	wantSame(t, "the zero one and few", api.Query{}, few(), false)
	for what, change := range map[string]func(q *api.Query){
		"P's kind":             func(q *api.Query) { q.P.K = api.PAnd },
		"a Var of P":           func(q *api.Query) { q.P.L[0].Var = "q" },
		"a Type of P":          func(q *api.Query) { q.P.L[0].Type = "q" },
		"a Lo of P":            func(q *api.Query) { q.P.L[2].L[0].Lo = 2 },
		"a Hi of P":            func(q *api.Query) { q.P.L[2].L[0].Hi = 2 },
		"a part of P less":     func(q *api.Query) { q.P.L = q.P.L[:2] },
		"a part of P more":     func(q *api.Query) { q.P.L = append(q.P.L, atom("a", "buy")) },
		"P's parts turned":     func(q *api.Query) { slices.Reverse(q.P.L) },
		"a condition's kind":   func(q *api.Query) { q.Where[0].K = api.XLe },
		"a condition's Var":    func(q *api.Query) { q.Where[0].L[0].Var = "q" },
		"a condition's Field":  func(q *api.Query) { q.Where[0].L[0].Field = "q" },
		"a condition's number": func(q *api.Query) { q.Where[2].L[1].L[1].V.N++ },
		"a condition's value":  func(q *api.Query) { q.Where[2].L[1].L[1].V.S = "q" },
		"a condition's part":   func(q *api.Query) { q.Where[2].L = append(q.Where[2].L, num(1)) },
		"a condition less":     func(q *api.Query) { q.Where = q.Where[:2] },
		"a condition more":     func(q *api.Query) { q.Where = append(q.Where, q.Where[0]) },
		"a zero condition":     func(q *api.Query) { q.Where = append(q.Where, api.Expr{}) },
		"no conditions":        func(q *api.Query) { q.Where = nil },
		"conditions turned":    func(q *api.Query) { slices.Reverse(q.Where) },
		"conditions as one":    func(q *api.Query) { q.Where = []api.Expr{op(api.XAnd, q.Where...)} },
		"no Key":               func(q *api.Query) { q.Key = "" },
		"another Key":          func(q *api.Query) { q.Key = "K" },
		"another Mode":         func(q *api.Query) { q.Mode = api.MAny },
		"no Mode":              func(q *api.Query) { q.Mode = 1<<32 + api.MNear },
		"another Within":       func(q *api.Query) { q.Within++ },
		"a Within that is far": func(q *api.Query) { q.Within += 1 << 32 },
		"an item's Name":       func(q *api.Query) { q.Items[3].Name = "q" },
		"an item's kind":       func(q *api.Query) { q.Items[3].K = api.IFirst },
		"an item's Var":        func(q *api.Query) { q.Items[3].Var = "q" },
		"an item's Field":      func(q *api.Query) { q.Items[3].Field = "q" },
		"an item less":         func(q *api.Query) { q.Items = q.Items[:3] },
		"an item more":         func(q *api.Query) { q.Items = append(q.Items, q.Items[0]) },
		"a zero item":          func(q *api.Query) { q.Items = append(q.Items, api.Item{}) },
		"no items":             func(q *api.Query) { q.Items = nil },
		"items turned":         func(q *api.Query) { slices.Reverse(q.Items) },
	} {
		wantSame(t, what, full(), with(change), false)
		wantSame(t, what+" in both", with(change), with(change), true)
	}
	for what, change := range map[string]func(q *api.Query){
		"empty lists in P":             func(q *api.Query) { q.P = copiedPat(q.P) },
		"empty lists in a condition":   func(q *api.Query) { q.Where[0] = copiedExpr(q.Where[0]) },
		"empty lists all over":         func(q *api.Query) { *q = copied(*q) },
		"lists with room behind them":  func(q *api.Query) { *q = roomy(*q) },
		"conditions of another memory": func(q *api.Query) { q.Where = slices.Clone(q.Where) },
	} {
		wantSame(t, what, full(), with(change), true)
	}
	wantSame(t, "nil and empty lists", few(), api.Query{P: few().P, Where: []api.Expr{}, Items: []api.Item{}}, true)
	wantSame(t, "nil and empty lists of the zero one", api.Query{}, copied(api.Query{}), true)
	wantSame(t, "none and a zero condition", few(), api.Query{P: few().P, Where: make([]api.Expr, 1)}, false)
	wantSame(t, "none and a zero item", few(), api.Query{P: few().P, Items: make([]api.Item, 1)}, false)
}

func TestSameAsTheWordsSay(t *testing.T) {
	r := rand.New(rand.NewSource(132))
	all := corpus()
	for _, q := range all {
		for _, x := range []api.Query{q, copied(q), bare(q), changed(r, q), pick(r, all)} {
			wantSame(t, "two of many", q, x, said(q) == said(x))
		}
	}
}

// P13.2

// roomy has q's parts in lists with room behind them, in which other things lie.
func roomy(q api.Query) api.Query {
	q = copied(q)
	var roomyPat func(p *api.Pat)
	roomyPat = func(p *api.Pat) {
		for i := range p.L {
			roomyPat(&p.L[i])
		}
		p.L = append(slices.Clip(p.L), api.Pat{K: 77})[:len(p.L)]
	}
	var roomyExpr func(x *api.Expr)
	roomyExpr = func(x *api.Expr) {
		for i := range x.L {
			roomyExpr(&x.L[i])
		}
		x.L = append(slices.Clip(x.L), api.Expr{K: 77})[:len(x.L)]
	}
	roomyPat(&q.P)
	whole := api.Expr{L: q.Where}
	roomyExpr(&whole)
	q.Where = whole.L
	q.Items = append(slices.Clip(q.Items), api.Item{K: 77})[:len(q.Items)]
	return q
}

// roomIsLeft tells whether what roomy laid behind q's lists is still there.
func roomIsLeft(q api.Query) bool {
	var patRoom func(p api.Pat) bool
	patRoom = func(p api.Pat) bool {
		return p.L[:len(p.L)+1][len(p.L)].K == 77 && !slices.ContainsFunc(p.L, func(x api.Pat) bool { return !patRoom(x) })
	}
	var exprRoom func(x api.Expr) bool
	exprRoom = func(x api.Expr) bool {
		return x.L[:len(x.L)+1][len(x.L)].K == 77 && !slices.ContainsFunc(x.L, func(y api.Expr) bool { return !exprRoom(y) })
	}
	return patRoom(q.P) && exprRoom(api.Expr{L: q.Where}) && q.Items[:len(q.Items)+1][len(q.Items)].K == 77
}

// listsOfExprs has the first elements of all lists below: no two may be one.
func listsOfExprs(l []api.Expr) []*api.Expr {
	var all []*api.Expr
	if len(l) > 0 {
		all = append(all, &l[0])
	}
	for _, x := range l {
		all = append(all, listsOfExprs(x.L)...)
	}
	return all
}

func listsOfPats(l []api.Pat) []*api.Pat {
	var all []*api.Pat
	if len(l) > 0 {
		all = append(all, &l[0])
	}
	for _, p := range l {
		all = append(all, listsOfPats(p.L)...)
	}
	return all
}

func twice[T comparable](l []T) bool {
	seen := map[T]int{}
	for _, x := range l {
		seen[x]++
	}
	return len(seen) != len(l)
}

func spoilExprs(l []api.Expr) {
	for i := range l {
		spoilExprs(l[i].L)
		l[i] = api.Expr{K: 99, Var: "spoilt"}
	}
	clear(l[len(l):cap(l)])
}

func spoilPats(l []api.Pat) {
	for i := range l {
		spoilPats(l[i].L)
		l[i] = api.Pat{K: 99, Var: "spoilt"}
	}
	clear(l[len(l):cap(l)])
}

func spoil(q api.Query) {
	spoilPats(q.P.L)
	spoilExprs(q.Where)
	for i := range q.Items {
		q.Items[i] = api.Item{Name: "spoilt"}
	}
	clear(q.Items[len(q.Items):cap(q.Items)])
}

func wantRenamed(t *testing.T, what string, q api.Query, from, to []string, want api.Query) {
	t.Helper()
	was := said(q)
	f, o := slices.Clone(from), slices.Clone(to)
	got := query.Rename(q, from, to)
	if said(got) != said(want) {
		t.Errorf("Rename of %s from %.60q to %.60q: %s, want %s", what, from, to, short(got), short(want))
	}
	if twice(listsOfPats(got.P.L)) || twice(listsOfExprs(got.Where)) {
		t.Errorf("Rename of %s: two lists of the answer share memory", what)
	}
	spoil(got)
	if said(q) != was || !slices.Equal(from, f) || !slices.Equal(to, o) {
		t.Errorf("Rename of %s changed what came in, or shares memory with it", what)
	}
}

// as has three Vars; each stands in P, in a condition and in an item.
func as(a, b, c string) api.Query {
	return api.Query{
		P:      seq(atom(a, "a"), not(b, "b"), row(api.POr, many(c, "c"), atom(a, "a"))),
		Where:  []api.Expr{less(a, b), op(api.XNot, op(api.XEq, field(c, "a"), num(1))), field(a, "a")},
		Key:    "a",
		Mode:   api.MStrict,
		Within: 3,
		Items:  []api.Item{item("a", api.IFirst, a, "a"), item("b", api.ISum, b, "b"), item("c", api.ICount, c, ""), item("d", api.ILast, a, "x")},
	}
}

func TestRename(t *testing.T) {
	type s = []string
	q := as("a", "b", "c")
	for i, x := range []struct {
		from, to s
		want     api.Query
	}{
		{nil, nil, q},
		{s{}, s{}, q},
		{nil, s{"z"}, q},
		{s{"a"}, nil, q},
		{s{"a"}, s{}, q},
		{s{"a"}, s{"z"}, as("z", "b", "c")},
		{s{"b"}, s{"z"}, as("a", "z", "c")},
		{s{"c"}, s{"z"}, as("a", "b", "z")},
		{s{"e"}, s{"z"}, q},
		{s{"x"}, s{"z"}, q},
		{s{"d"}, s{"z"}, q},
		{s{""}, s{"z"}, q},
		{s{"a", "b"}, s{"b", "a"}, as("b", "a", "c")},
		{s{"a", "b", "c"}, s{"b", "c", "a"}, as("b", "c", "a")},
		{s{"c", "a", "b"}, s{"b", "c", "a"}, as("c", "a", "b")},
		{s{"a", "b", "c"}, s{"z", "z", "z"}, as("z", "z", "z")},
		{s{"a"}, s{"b"}, as("b", "b", "c")},
		{s{"a", "b", "c"}, s{"z"}, as("z", "b", "c")},
		{s{"a", "b", "c"}, s{"y", "z"}, as("y", "z", "c")},
		{s{"c", "b", "a"}, s{"y", "z"}, as("a", "z", "y")},
		{s{"a"}, s{"y", "z", "q"}, as("y", "b", "c")},
		{s{"a", "a"}, s{"y", "z"}, as("y", "b", "c")},
		{s{"a", "a"}, s{"a", "z"}, q},
		{s{"a", "a"}, s{"y"}, as("y", "b", "c")},
		{s{"a", "b", "a"}, s{"y", "z"}, as("y", "z", "c")},
		{s{"b", "a", "a", "b"}, s{"y", "z", "p", "q"}, as("z", "y", "c")},
		{s{"e", "a", "e", "a"}, s{"e"}, q},
		{s{"e", "a", "e", "a"}, s{"e", "f"}, as("f", "b", "c")},
		{s{"a"}, s{"a"}, q},
		{s{"a"}, s{""}, as("", "b", "c")},
		{s{"a", "b"}, s{"No name", most + "n"}, as("No name", most+"n", "c")},
	} {
		wantRenamed(t, fmt.Sprint("row ", i), q, x.from, x.to, x.want)
	}
}

func TestRenameAlone(t *testing.T) {
	in := func(p, w, i string) api.Query {
		return api.Query{P: atom(p, "t"), Where: []api.Expr{field(w, "x")}, Items: []api.Item{item("n", api.ICount, i, "")}}
	}
	q := in("p", "w", "i")
	type s = []string
	z := s{"z"}
	wantRenamed(t, "a name in P alone", q, s{"p"}, z, in("z", "w", "i"))
	wantRenamed(t, "a name in a condition alone", q, s{"w"}, z, in("p", "z", "i"))
	wantRenamed(t, "a name in an item alone", q, s{"i"}, z, in("p", "w", "z"))
	wantRenamed(t, "names that change places between them", q, s{"p", "w", "i"}, s{"w", "i", "p"}, in("w", "i", "p"))
	wantRenamed(t, "an item's Name", q, s{"n"}, z, q)
	wantRenamed(t, "a Type", q, s{"t"}, z, q)
	wantRenamed(t, "a Field", q, s{"x"}, z, q)
	wantRenamed(t, "Key", api.Query{Key: "k"}, s{"k"}, z, api.Query{Key: "k"})
	wantRenamed(t, "the zero query", api.Query{}, s{""}, z, api.Query{})
	wantRenamed(t, "no Var in P", api.Query{P: atom("", "t")}, s{""}, z, api.Query{P: atom("z", "t")})
	wantRenamed(t, "no Var in a condition", api.Query{Where: []api.Expr{field("", "x")}}, s{""}, z, api.Query{Where: []api.Expr{field("z", "x")}})
	wantRenamed(t, "no Var in an item", api.Query{Items: []api.Item{{}}}, s{""}, z, api.Query{Items: []api.Item{{Var: "z"}}})
	for k := -1; k <= 6; k++ {
		wantRenamed(t, fmt.Sprint("an item of kind ", k), api.Query{Items: []api.Item{item("a", k, "a", "a"), item("b", k, "b", "a")}}, s{"a"}, z, api.Query{Items: []api.Item{item("a", k, "z", "a"), item("b", k, "b", "a")}})
	}
	wantRenamed(t, "an XAnd of an XAnd", api.Query{Where: []api.Expr{op(api.XAnd, op(api.XAnd, field("a", "x")))}}, s{"a"}, z, api.Query{Where: []api.Expr{op(api.XAnd, op(api.XAnd, field("z", "x")))}})
	wantRenamed(t, "a zero condition", api.Query{Where: make([]api.Expr, 2)}, s{"a"}, z, api.Query{Where: make([]api.Expr, 2)})
	x := less("a", "b")
	wantRenamed(t, "one list twice", api.Query{Where: []api.Expr{x, x}}, s{"a"}, z, api.Query{Where: []api.Expr{less("z", "b"), less("z", "b")}})
}

func TestRenameAsTheWordsSay(t *testing.T) {
	r := rand.New(rand.NewSource(133))
	all := append(slices.Clone(names), "v0", "v1", "v2", "v3", "v4", "v5", "n0", "x", "k", "buy")
	for i, q := range corpus() {
		for range 4 {
			var from, to []string
			for range r.Intn(9) {
				from = append(from, pick(r, all))
			}
			for range r.Intn(9) {
				to = append(to, pick(r, all))
			}
			wantRenamed(t, fmt.Sprint("query ", i), q, from, to, renamed(q, from, to))
		}
	}
}

func wantWhere(t *testing.T, what string, x api.Expr, want ...api.Expr) {
	t.Helper()
	was, wanted := saidRow([]api.Expr{x}), saidRow(want)
	got := query.Where(x)
	if saidRow(got) != wanted {
		t.Errorf("Where of %s: %.300s, want %.300s", what, saidRow(got), wanted)
	}
	if twice(listsOfExprs(got)) {
		t.Errorf("Where of %s: two lists of the answer share memory", what)
	}
	spoilExprs(got)
	if saidRow([]api.Expr{x}) != was {
		t.Errorf("Where of %s changed it, or shares memory with it", what)
	}
}

func TestWhere(t *testing.T) {
	a, b, c := field("a", "x"), less("b", "c"), num(3)
	wantWhere(t, "a AND b", op(api.XAnd, a, b), a, b)
	wantWhere(t, "b AND a", op(api.XAnd, b, a), b, a)
	wantWhere(t, "a AND b AND c", op(api.XAnd, a, b, c), a, b, c)
	wantWhere(t, "a AND a", op(api.XAnd, a, a), a, a)
	wantWhere(t, "b AND b, of one list", op(api.XAnd, b, b), less("b", "c"), less("b", "c"))
	wantWhere(t, "an XAnd of no part", op(api.XAnd))
	wantWhere(t, "an XAnd of an empty list", api.Expr{K: api.XAnd, L: []api.Expr{}})
	wantWhere(t, "an XAnd of one part", op(api.XAnd, b), b)
	wantWhere(t, "an XAnd within an XAnd", op(api.XAnd, a, op(api.XAnd, b, c)), a, op(api.XAnd, b, c))
	wantWhere(t, "an XAnd within an XAnd, ahead", op(api.XAnd, op(api.XAnd, b, c), a), op(api.XAnd, b, c), a)
	wantWhere(t, "an XAnd alone within an XAnd", op(api.XAnd, op(api.XAnd, b, c)), op(api.XAnd, b, c))
	wantWhere(t, "an XAnd of zero parts", op(api.XAnd, api.Expr{}, api.Expr{}), api.Expr{}, api.Expr{})
	wantWhere(t, "an XAnd with other fields", api.Expr{K: api.XAnd, Var: "v", Field: "f", V: a.V, L: []api.Expr{a, b}}, a, b)
	wantWhere(t, "an XAnd in an XOr", op(api.XOr, op(api.XAnd, a, b), c), op(api.XOr, op(api.XAnd, a, b), c))
	wantWhere(t, "an XOr in an XAnd", op(api.XAnd, op(api.XOr, a, b), c), op(api.XOr, a, b), c)
	wantWhere(t, "NOT (a AND b)", op(api.XNot, op(api.XAnd, a, b)), op(api.XNot, op(api.XAnd, a, b)))
	wantWhere(t, "a", a, a)
	wantWhere(t, "a constant", c, c)
	wantWhere(t, "the zero condition", api.Expr{}, api.Expr{})
	for k := -2; k <= 20; k++ {
		if k != api.XAnd {
			wantWhere(t, fmt.Sprint("kind ", k), op(k, a, b), op(k, a, b))
			wantWhere(t, fmt.Sprint("kind without parts ", k), op(k), op(k))
		}
	}
	var many []api.Expr
	for i := range 1 << 16 {
		many = append(many, num(int64(i)))
	}
	wantWhere(t, "many", op(api.XAnd, many...), many...)
}

func TestWhereAndJoin(t *testing.T) {
	r := rand.New(rand.NewSource(134))
	n := 0
	for _, q := range corpus() {
		if query.Check(q) == api.OK {
			n++
			joined := expr.Join(api.XAnd, q.Where...)
			if len(q.Where) > 0 && saidRow(query.Where(joined)) != saidRow(q.Where) {
				t.Errorf("%s: Where of its conditions as one is %s", short(q), saidRow(query.Where(joined)))
			}
		}
		x := wildExpr(r, 4)
		if x.K == api.XAnd {
			wantWhere(t, "one at random", x, x.L...)
		} else {
			wantWhere(t, "one at random", x, x)
		}
	}
	if n < 400 {
		t.Errorf("only %d are right", n)
	}
}

func wantNames(t *testing.T, what string, q api.Query, want ...string) {
	t.Helper()
	was := said(q)
	got := query.Names(q)
	if !slices.Equal(got, want) {
		t.Errorf("Names of %s, %s: %.300q, want %.300q", what, short(q), got, want)
	}
	for i := range got {
		got[i] = "spoilt"
	}
	if said(q) != was || !slices.Equal(query.Names(q), want) {
		t.Errorf("Names of %s changed something", what)
	}
}

func TestNames(t *testing.T) {
	in := func(p, w, i string) api.Query {
		return api.Query{P: atom(p, "t"), Where: []api.Expr{field(w, "x")}, Items: []api.Item{item("n", api.ICount, i, "")}, Key: "k"}
	}
	wantNames(t, "the zero query", api.Query{})
	wantNames(t, "the zero query with empty lists", copied(api.Query{}))
	wantNames(t, "one without any", api.Query{P: seq(row(api.POr), api.Pat{}), Where: []api.Expr{num(1), op(api.XNot, num(2))}, Key: "k"})
	wantNames(t, "few", few(), "a")
	wantNames(t, "full", full(), "a", "b", "c", "d", "e")
	wantNames(t, "as", as("x", "y", "z"), "x", "y", "z")
	wantNames(t, "as, turned", as("z", "y", "x"), "x", "y", "z")
	wantNames(t, "a name in each", in("p", "w", "i"), "i", "p", "w")
	wantNames(t, "a name in each, turned", in("w", "i", "p"), "i", "p", "w")
	wantNames(t, "one name in all", in("a", "a", "a"), "a")
	wantNames(t, "one name in P and a condition", in("a", "a", "b"), "a", "b")
	wantNames(t, "one name in P and an item", in("b", "a", "b"), "a", "b")
	wantNames(t, "one name in a condition and an item", in("c", "a", "a"), "a", "c")
	wantNames(t, "P alone", api.Query{P: row(api.PAnd, many("d", "t"), seq(atom("c", "t"), not("b", "t")), atom("d", "t"))}, "b", "c", "d")
	wantNames(t, "conditions alone", api.Query{Where: []api.Expr{less("d", "c"), op(api.XAnd, less("b", "d"), op(api.XNot, field("a", "x")))}}, "a", "b", "c", "d")
	wantNames(t, "items alone", api.Query{Items: []api.Item{item("n", api.ISum, "d", "x"), item("m", api.ICount, "c", ""), item("l", api.IFirst, "d", "y"), item("k", api.ILast, "b", "x"), item("j", 0, "a", "")}}, "a", "b", "c", "d")
	wantNames(t, "order of bytes", api.Query{P: seq(atom("b", "t"), atom("a_", "t"), atom("a", "t"), atom("a10", "t"), atom("a9", "t")), Where: []api.Expr{less("ab", "aa"), less("a0", "z")}, Items: []api.Item{item("n", api.ICount, "a1", ""), item("m", api.ICount, "a2", "")}}, "a", "a0", "a1", "a10", "a2", "a9", "a_", "aa", "ab", "b", "z")
	wantNames(t, "no names", in("é", "A", "a\xff"), "A", "a\xff", "é")
	wantNames(t, "no Var", in("", "b", "a"), "", "a", "b")
	wantNames(t, "no Var in a condition", in("b", "", "a"), "", "a", "b")
	wantNames(t, "a zero item", api.Query{P: atom("a", "t"), Items: make([]api.Item, 2)}, "", "a")
	wantNames(t, "Vars of others than fields", api.Query{P: api.Pat{K: api.PSeq, Var: "p"}, Where: []api.Expr{{K: api.XConst, Var: "q"}, {Var: "r"}}})
	for _, q := range corpus() {
		wantNames(t, "one of many", q, namesOf(q)...)
	}
}

// P13.3

func wantBack(t *testing.T, what string, q api.Query, from, to []string) {
	t.Helper()
	x := query.Rename(q, from, to)
	if back := query.Rename(x, to, from); !query.Same(back, q) || said(back) != said(q) {
		t.Errorf("%s, %s, is %s when it is renamed and back", what, short(q), short(back))
	}
	if query.Check(x) != query.Check(q) {
		t.Errorf("%s, %s: Check %d, renamed %d", what, short(q), query.Check(q), query.Check(x))
	}
}

func TestRenamedAndBack(t *testing.T) {
	r := rand.New(rand.NewSource(135))
	for _, q := range append(corpus(), as("a", "b", "c"), full()) {
		from := slices.DeleteFunc(query.Names(q), func(s string) bool { return !isName(s) })
		var to []string
		for i := range from {
			to = append(to, fmt.Sprint("new", i))
		}
		wantBack(t, "with new names", q, from, to)
		wantNames(t, "what has new names", query.Rename(q, from, to), namesOf(renamed(q, from, to))...)
		some := from[:len(from)/2]
		wantBack(t, "with some new names", q, some, to[:len(some)])
		turned := slices.Clone(from)
		r.Shuffle(len(turned), func(i, j int) { turned[i], turned[j] = turned[j], turned[i] })
		wantBack(t, "with names that change places", q, from, turned)
		wantBack(t, "with names that it has not", q, []string{"none0", "none1"}, []string{"none2", "none3"})
		wantBack(t, "with no names", q, nil, nil)
	}
	x := query.Rename(as("a", "b", "c"), []string{"a"}, []string{"b"})
	if query.Same(query.Rename(x, []string{"b"}, []string{"a"}), as("a", "b", "c")) {
		t.Error("two names that became one are two again")
	}
}

// P1: calls end, and none panics.

func TestNestedAsDeepAsMayBe(t *testing.T) {
	const n = 1 << 16
	deep := func(v string) api.Query {
		p, x := atom(v, "t"), field(v, "x")
		for i := range n - 2 {
			p, x = row(api.PSeq+i%3, p), op(api.XAnd, x)
		}
		return api.Query{P: p, Where: []api.Expr{x}, Items: []api.Item{item("n", api.ICount, v, "")}}
	}
	q := deep("a")
	if query.Check(q) != api.ErrLong || query.Check(api.Query{P: few().P, Where: q.Where}) != api.ErrLong {
		t.Error("Check of what is deep")
	}
	if !query.Same(q, deep("a")) || query.Same(q, deep("b")) {
		t.Error("Same of what is deep")
	}
	if x := query.Rename(q, []string{"a"}, []string{"b"}); !query.Same(x, deep("b")) || !slices.Equal(query.Names(x), []string{"b"}) {
		t.Error("Rename or Names of what is deep")
	}
	if l := query.Where(q.Where[0]); len(l) != 1 || !expr.Same(l[0], q.Where[0].L[0]) {
		t.Error("Where of what is deep")
	}
}

func TestManyNames(t *testing.T) {
	const n = 1 << 15
	var from, to []string
	q := api.Query{P: seq()}
	for i := range n {
		from, to = append(from, fmt.Sprintf("a%06d", i)), append(to, fmt.Sprintf("b%06d", i))
		q.P.L = append(q.P.L, atom(from[i], "t"))
		q.Where = append(q.Where, less(from[i], from[i]))
		q.Items = append(q.Items, item("n", api.ISum, from[i], "x"))
	}
	x := query.Rename(q, from, to)
	if !slices.Equal(query.Names(q), from) || !slices.Equal(query.Names(x), to) || query.Same(x, q) || !query.Same(query.Rename(x, to, from), q) {
		t.Error("many names are not renamed")
	}
	if query.Check(q) != api.ErrLong {
		t.Errorf("Check of many: %d", query.Check(q))
	}
}

// P3 and P4: nil and empty lists are the same; what is handed in is neither changed nor kept.

func TestWhatIsHandedIn(t *testing.T) {
	for _, q := range corpus() {
		x, y := roomy(q), bare(q)
		if query.Check(x) != checked(q) || query.Check(y) != checked(q) || !query.Same(x, y) || !query.Same(x, q) {
			t.Errorf("%s and one with other lists differ", short(q))
		}
		wantNames(t, "one with empty lists", x, namesOf(q)...)
		wantNames(t, "one with nil lists", y, namesOf(q)...)
		from := slices.Grow(query.Names(q), 3)
		to := slices.Grow(slices.Clone(from), 3)
		slices.Reverse(to)
		wantRenamed(t, "one with empty lists", x, from, to, renamed(q, from, to))
		wantRenamed(t, "one with nil lists", y, from, to, renamed(q, from, to))
		for i, c := range x.Where {
			want := q.Where[i : i+1]
			if c.K == api.XAnd {
				want = q.Where[i].L
			}
			wantWhere(t, "one with empty lists", c, want...)
		}
		if !roomIsLeft(x) || said(x) != said(q) {
			t.Errorf("%s: what lies behind its lists is changed", short(q))
		}
	}
}

func FuzzQuery(f *testing.F) {
	for i := range int64(8) {
		f.Add(i, int64(7), 1, "a", "b")
	}
	f.Fuzz(func(t *testing.T, seed, within int64, mode int, a, b string) {
		r := rand.New(rand.NewSource(seed))
		x, y := wild(r), tame(r)
		z := changed(r, y)
		z.Key, z.Mode, z.Within = a, mode, within
		z.Items = append(z.Items, item(a, 1+r.Intn(4), b, a))
		all := []api.Query{x, y, z, changed(r, z)}
		for _, q := range all {
			wantCheck(t, "fuzz", q, checked(q))
			wantNames(t, "fuzz", q, namesOf(q)...)
			from, to := []string{a, pick(r, names), b, a}, []string{b, pick(r, names), a}
			wantRenamed(t, "fuzz", q, from, to, renamed(q, from, to))
			for _, w := range all {
				wantSame(t, "fuzz", q, w, said(q) == said(w))
			}
		}
	})
}
