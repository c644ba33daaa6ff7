package order_test

import (
	"fmt"
	"math"
	"math/rand"
	"slices"
	"strings"
	"testing"

	"haruspex/api"
	"haruspex/expr"
	"haruspex/order"
	"haruspex/pat"
)

var (
	rows = []int{api.PSeq, api.PAnd, api.POr}
	// texts are in the order of bytes, which is not that of the alphabet.
	texts = []string{"", "\x00", "10", "9", "A", "Z", "Zz", "a", "a\x00", "aZ", "aa", "ab", "b", "ba", "z", "é", "\xff"}
	// numbers are in their order.
	numbers = []int{math.MinInt, math.MinInt32, -2, -1, 0, 1, 2, 3, 10, 1000, 1001, math.MaxInt32, 1 << 32, 1<<32 + 1, math.MaxInt}
)

func atom(v, t string) api.Pat { return api.Pat{K: api.PAtom, Var: v, Type: t} }

func not(v, t string) api.Pat { return api.Pat{K: api.PNot, Var: v, Type: t} }

func many(v, t string, lo, hi int) api.Pat {
	return api.Pat{K: api.PMany, Var: v, Type: t, Lo: lo, Hi: hi}
}

func row(k int, l ...api.Pat) api.Pat { return api.Pat{K: k, L: l} }

func seq(l ...api.Pat) api.Pat { return row(api.PSeq, l...) }

func and(l ...api.Pat) api.Pat { return row(api.PAnd, l...) }

func or(l ...api.Pat) api.Pat { return row(api.POr, l...) }

func num(n int64) api.Expr { return api.Expr{K: api.XConst, V: api.Value{K: api.VInt, N: n}} }

func text(s string) api.Expr { return api.Expr{K: api.XConst, V: api.Value{K: api.VText, S: s}} }

func field(v, f string) api.Expr { return api.Expr{K: api.XField, Var: v, Field: f} }

func op(k int, l ...api.Expr) api.Expr { return api.Expr{K: k, L: l} }

func copied(p api.Pat) api.Pat {
	l := make([]api.Pat, len(p.L))
	for i, x := range p.L {
		l[i] = copied(x)
	}
	p.L = l
	return p
}

// said tells all fields of all nodes, so two are the same if this is.
func said(l ...api.Pat) string {
	var b strings.Builder
	var tell func(p api.Pat)
	tell = func(p api.Pat) {
		fmt.Fprintf(&b, "(%d %q %q %d %d %d", p.K, p.Var, p.Type, p.Lo, p.Hi, len(p.L))
		for _, x := range p.L {
			tell(x)
		}
		b.WriteByte(')')
	}
	for _, p := range l {
		tell(p)
	}
	return b.String()
}

func saidConds(l ...api.Expr) string {
	var b strings.Builder
	var tell func(x api.Expr)
	tell = func(x api.Expr) {
		fmt.Fprintf(&b, "(%d %d %d %q %q %q %d", x.K, x.V.K, x.V.N, x.V.S, x.Var, x.Field, len(x.L))
		for _, y := range x.L {
			tell(y)
		}
		b.WriteByte(')')
	}
	for _, x := range l {
		tell(x)
	}
	return b.String()
}

func short(s string) string { return fmt.Sprintf("%.400s", s) }

// Models of the chapter's words, by other means.

// nodesOf has p and all below it, each ahead of its parts.
func nodesOf(p api.Pat) []api.Pat {
	l := []api.Pat{p}
	for _, x := range p.L {
		l = append(l, nodesOf(x)...)
	}
	return l
}

func byNumber(a, b int) int {
	switch {
	case a < b:
		return -1
	case a > b:
		return 1
	}
	return 0
}

// formOf holds all nodes against each other, by one field at a time; those behind the first that differ may have other places, but they tell nothing.
func formOf(a, b api.Pat) int {
	l, m := nodesOf(a), nodesOf(b)
	for i := range min(len(l), len(m)) {
		x, y := l[i], m[i]
		for _, c := range []int{byNumber(x.K, y.K), strings.Compare(x.Type, y.Type), byNumber(x.Lo, y.Lo), byNumber(x.Hi, y.Hi), byNumber(len(x.L), len(y.L))} {
			if c != 0 {
				return c
			}
		}
	}
	return 0
}

func wholeOf(a, b api.Pat) int {
	if c := formOf(a, b); c != 0 {
		return c
	}
	l, m := nodesOf(a), nodesOf(b)
	for i := range l {
		if c := strings.Compare(l[i].Var, m[i].Var); c != 0 {
			return c
		}
	}
	return 0
}

// sortedBy takes again and again the first of those that are least.
func sortedBy[T any](l []T, less func(a, b T) bool) []T {
	left := slices.Clone(l)
	var out []T
	for len(left) > 0 {
		least := 0
		for i := range left {
			if less(left[i], left[least]) {
				least = i
			}
		}
		out = append(out, left[least])
		left = slices.Delete(left, least, least+1)
	}
	return out
}

func sortOf(l []api.Pat) []api.Pat {
	return sortedBy(l, func(a, b api.Pat) bool { return formOf(a, b) < 0 })
}

func uniqueOf(l []api.Pat) []api.Pat {
	var out []api.Pat
	seen := map[string]bool{}
	for _, p := range l {
		if !seen[said(p)] {
			out = append(out, p)
		}
		seen[said(p)] = true
	}
	return out
}

func condsOf(l []api.Expr) []api.Expr {
	var once []api.Expr
	seen := map[string]bool{}
	for _, x := range l {
		if !seen[saidConds(x)] {
			once = append(once, x)
		}
		seen[saidConds(x)] = true
	}
	return sortedBy(once, func(a, b api.Expr) bool { return expr.Order(a, b) < 0 })
}

// Trees at random.

func pick[T any](r *rand.Rand, l []T) T { return l[r.Intn(len(l))] }

// wild may be anything; most of these are not right, and few fields have many values, so that many are alike.
func wild(r *rand.Rand, deep int) api.Pat {
	p := api.Pat{K: 1 + r.Intn(3)}
	if r.Intn(30) == 0 {
		p.K = pick(r, numbers)
	}
	if r.Intn(2) == 0 {
		p.Var = pick(r, texts)
	}
	if r.Intn(2) == 0 {
		p.Type = pick(r, []string{"", "a", "b"})
	}
	if r.Intn(20) == 0 {
		p.Type = pick(r, texts)
	}
	if r.Intn(6) == 0 {
		p.Lo = pick(r, numbers)
	}
	if r.Intn(6) == 0 {
		p.Hi = pick(r, numbers)
	}
	if deep > 1 {
		for range r.Intn(4) {
			p.L = append(p.L, wild(r, deep-1))
		}
	}
	if len(p.L) == 0 && r.Intn(2) == 0 {
		p.L = []api.Pat{}
	}
	return p
}

// changed differs from p in one field of one node, or in one part more or less.
func changed(r *rand.Rand, p api.Pat) api.Pat {
	p = copied(p)
	x := &p
	for len(x.L) > 0 && r.Intn(4) != 0 {
		x = &x.L[r.Intn(len(x.L))]
	}
	switch r.Intn(6) {
	case 0:
		x.K++
	case 1:
		x.Var += "a"
	case 2:
		x.Type += "a"
	case 3:
		x.Lo++
	case 4:
		x.Hi++
	default:
		if len(x.L) == 0 || r.Intn(2) == 0 {
			x.L = append(x.L, atom("a", "buy"))
		} else {
			x.L = x.L[:len(x.L)-1]
		}
	}
	return p
}

// renamed has other Vars at all nodes, also at those whose kind has none.
func renamed(r *rand.Rand, p api.Pat) api.Pat {
	p = copied(p)
	var down func(x *api.Pat)
	down = func(x *api.Pat) {
		x.Var = pick(r, texts)
		for i := range x.L {
			down(&x.L[i])
		}
	}
	down(&p)
	return p
}

// wildRow has some patterns, some of them again, some renamed, some changed.
func wildRow(r *rand.Rand, n int) []api.Pat {
	var l []api.Pat
	for range n {
		switch p := wild(r, 1+r.Intn(4)); {
		case len(l) > 0 && r.Intn(4) == 0:
			l = append(l, copied(pick(r, l)))
		case len(l) > 0 && r.Intn(4) == 0:
			l = append(l, renamed(r, pick(r, l)))
		case len(l) > 0 && r.Intn(3) == 0:
			l = append(l, changed(r, pick(r, l)))
		default:
			l = append(l, p)
		}
	}
	return l
}

func wildCond(r *rand.Rand, deep int) api.Expr {
	x := api.Expr{K: pick(r, []int{api.XConst, api.XField, api.XLt, api.XAnd, 0, -1, 99})}
	if r.Intn(2) == 0 {
		x.V = api.Value{K: r.Intn(5), N: int64(r.Intn(4) - 1), S: pick(r, []string{"", "a"})}
	}
	if r.Intn(2) == 0 {
		x.Var, x.Field = pick(r, texts), pick(r, texts)
	}
	if deep > 1 {
		for range r.Intn(4) {
			x.L = append(x.L, wildCond(r, deep-1))
		}
	}
	return x
}

func copiedCond(x api.Expr) api.Expr {
	l := make([]api.Expr, len(x.L))
	for i, y := range x.L {
		l[i] = copiedCond(y)
	}
	x.L = l
	return x
}

func wildConds(r *rand.Rand, n int) []api.Expr {
	var l []api.Expr
	for range n {
		if len(l) > 0 && r.Intn(2) == 0 {
			l = append(l, copiedCond(pick(r, l)))
		} else {
			l = append(l, wildCond(r, 1+r.Intn(3)))
		}
	}
	return l
}

// corpus has patterns of all sorts: right ones and others.
func corpus() []api.Pat {
	a, b, c, n, m := atom("a", "buy"), atom("b", "sell"), atom("c", "buy"), not("n", "sell"), many("m", "buy", 1, 0)
	l := []api.Pat{{}, {Var: "a"}, {L: []api.Pat{{}}}, {K: -1}, {K: 7}, a, b, c, n, m, many("m", "buy", 2, 3), many("m", "buy", 2, 0), many("m", "buy", -1, -1)}
	for _, k := range rows {
		l = append(l, row(k), row(k, a), row(k, a, b), row(k, b, a), row(k, a, n, b), row(k, c, b), row(k, a, b, c), row(k, row(k, a, b), c), row(k, or(a, b), and(c, m)), row(k, a, seq(b, or(c, m))))
	}
	r := rand.New(rand.NewSource(15))
	for i := range 60 {
		l = append(l, wild(r, 1+i%4))
	}
	return l
}

// at sets p at places of other patterns, up to some way down; of all but p these are the same.
func at(p api.Pat) []api.Pat {
	u, v, w := atom("u", "t"), not("v", "t"), many("w", "t", 1, 0)
	l := []api.Pat{p, row(9, p)}
	for _, k := range rows {
		l = append(l, row(k, p, u), row(k, p, u, v), row(k, u, p, v), row(k, u, v, p), row(k, u, seq(v, p, w)), row(k, or(p, u), v), row(k, u, seq(v, or(w, p)), v))
	}
	return l
}

// P15.1

// wantOrder asks a call in both orders, and of each by itself, that nothing is changed.
func wantOrder(t *testing.T, what string, call func(a, b api.Pat) int, a, b api.Pat, want int) {
	t.Helper()
	was, wasB := said(a), said(b)
	if got := call(a, b); got != want {
		t.Errorf("%s of %s and %s: %d, want %d", what, short(was), short(wasB), got, want)
	}
	if got := call(b, a); got != -want {
		t.Errorf("%s of %s and %s: %d, want %d", what, short(wasB), short(was), got, -want)
	}
	if call(a, a) != 0 || call(b, copied(b)) != 0 {
		t.Errorf("%s of %s or %s and itself is not 0", what, short(was), short(wasB))
	}
	if said(a) != was || said(b) != wasB {
		t.Errorf("%s of %s and %s changed them", what, short(was), short(wasB))
	}
}

// wantForm asks Whole too where Form tells.
func wantForm(t *testing.T, what string, a, b api.Pat, want int) {
	t.Helper()
	wantOrder(t, what+": Form", order.Form, a, b, want)
	if want != 0 {
		wantOrder(t, what+": Whole", order.Whole, a, b, want)
	}
}

// wantWhole asks of two that have one form.
func wantWhole(t *testing.T, what string, a, b api.Pat, want int) {
	t.Helper()
	wantOrder(t, what+": Form", order.Form, a, b, 0)
	wantOrder(t, what+": Whole", order.Whole, a, b, want)
}

// wantFormAt asks of two wherever they stand.
func wantFormAt(t *testing.T, what string, a, b api.Pat, want int) {
	t.Helper()
	l, m := at(a), at(b)
	for i := range l {
		wantForm(t, what, l[i], m[i], want)
	}
}

func wantWholeAt(t *testing.T, what string, a, b api.Pat, want int) {
	t.Helper()
	l, m := at(a), at(b)
	for i := range l {
		wantWhole(t, what, l[i], m[i], want)
	}
}

func TestFormExample(t *testing.T) {
	a, b := atom("a", "buy"), atom("b", "sell")
	wantForm(t, "a PAtom and a PSeq", a, seq(a, b), -1)
	wantForm(t, "a PAtom and a PSeq whose names tell otherwise", atom("z", "zz"), seq(atom("a", "a"), atom("b", "a")), -1)
}

func TestFormByKind(t *testing.T) {
	a, b := atom("a", "buy"), atom("b", "sell")
	kinds := []api.Pat{a, seq(a, b), and(a, b), or(a, b), many("a", "buy", 1, 0), not("a", "buy")}
	for i, x := range kinds {
		for j, y := range kinds {
			wantFormAt(t, "kinds", x, y, byNumber(i, j))
		}
	}
	for _, i := range numbers {
		for _, j := range numbers {
			wantForm(t, "kinds alone", api.Pat{K: i}, api.Pat{K: j}, byNumber(i, j))
			wantFormAt(t, "kinds of parts", row(i, a, b), row(j, a, b), byNumber(i, j))
		}
	}
}

func TestFormByType(t *testing.T) {
	for i, x := range texts {
		for j, y := range texts {
			want := byNumber(i, j)
			wantFormAt(t, "Types", atom("a", x), atom("a", y), want)
			wantForm(t, "Types of PManys", many("a", x, 2, 3), many("a", y, 2, 3), want)
			wantForm(t, "Types of PNots", not("a", x), not("a", y), want)
			wantForm(t, "Types of a kind that has none", api.Pat{K: api.PSeq, Type: x}, api.Pat{K: api.PSeq, Type: y}, want)
		}
	}
	long := strings.Repeat("a", 1000)
	wantFormAt(t, "long Types", atom("a", long), atom("a", long+"a"), -1)
	wantFormAt(t, "long Types", atom("a", long+"a"), atom("a", long+"b"), -1)
}

func TestFormByCounts(t *testing.T) {
	for _, i := range numbers {
		for _, j := range numbers {
			want := byNumber(i, j)
			wantFormAt(t, "Lo", many("a", "buy", i, 3), many("a", "buy", j, 3), want)
			wantFormAt(t, "Hi", many("a", "buy", 2, i), many("a", "buy", 2, j), want)
			wantForm(t, "Lo of a kind that has none", api.Pat{K: api.PAtom, Lo: i}, api.Pat{K: api.PAtom, Lo: j}, want)
			wantForm(t, "Hi of a kind that has none", api.Pat{K: api.PAnd, Hi: i}, api.Pat{K: api.PAnd, Hi: j}, want)
			wantForm(t, "Lo that tells ahead of Hi", many("a", "buy", i, 5), many("a", "buy", j, 5-want), want)
		}
	}
	wantForm(t, "any number and some", many("a", "buy", 2, 0), many("a", "buy", 2, 3), -1)
}

func TestFormByParts(t *testing.T) {
	a, b, c := atom("a", "b"), atom("b", "b"), atom("c", "c")
	for _, k := range append(rows, api.PAtom, 0, -1, 9) {
		var l []api.Pat
		for i := range 6 {
			for j := range 6 {
				wantFormAt(t, "how many parts", row(k, make([]api.Pat, i)...), row(k, make([]api.Pat, j)...), byNumber(i, j))
			}
			l = append(l, a)
			wantForm(t, "one more", row(k, l...), row(k, append(slices.Clone(l), a)...), -1)
			for j := range l {
				m := slices.Clone(l)
				m[j] = c
				wantFormAt(t, fmt.Sprintf("part %d of %d", j, len(l)), row(k, l...), row(k, m...), -1)
			}
		}
		wantForm(t, "fewer that are greater", row(k, c, c), row(k, a, b, a), -1)
		wantForm(t, "the first tells", row(k, a, c, c), row(k, c, a, a), -1)
		wantForm(t, "the middle tells", row(k, a, b, c), row(k, b, c, a), -1)
		wantForm(t, "the last tells", row(k, a, b, a), row(k, b, a, c), -1)
		wantForm(t, "a part of an earlier part tells", row(k, or(a, c), c), row(k, or(c, a), a), -1)
		wantForm(t, "parts of parts: how many", row(k, or(c, c), c), row(k, or(a, a, a), a), -1)
	}
}

// step makes two patterns differ in one thing: sign tells which of both is less.
type step struct {
	what string
	set  func(a, b *api.Pat, sign int)
}

// between sets the lesser where sign tells.
func between[T any](a, b *T, less, more T, sign int) {
	*a, *b = less, less
	if sign < 0 {
		*b = more
	}
	if sign > 0 {
		*a = more
	}
}

// steps are in the order in which Form asks. The parts are set last, as how many they are is told apart from what they are.
func steps() []step {
	return []step{
		{"K", func(a, b *api.Pat, sign int) { between(&a.K, &b.K, 2, 3, sign) }},
		{"Type", func(a, b *api.Pat, sign int) { between(&a.Type, &b.Type, "b", "ba", sign) }},
		{"Lo", func(a, b *api.Pat, sign int) { between(&a.Lo, &b.Lo, -1, 1, sign) }},
		{"Hi", func(a, b *api.Pat, sign int) { between(&a.Hi, &b.Hi, 0, 2, sign) }},
		{"parts", func(a, b *api.Pat, sign int) {
			x, y := seq(make([]api.Pat, 3)...), seq(make([]api.Pat, 4)...)
			between(&a.L, &b.L, x.L, y.L, sign)
			a.L, b.L = slices.Clone(a.L), slices.Clone(b.L)
		}},
		{"the first", func(a, b *api.Pat, sign int) { between(&a.L[0].Type, &b.L[0].Type, "Z", "a", sign) }},
		{"a part of the middle one", func(a, b *api.Pat, sign int) {
			a.L[1].L, b.L[1].L = make([]api.Pat, 2), make([]api.Pat, 2)
			between(&a.L[1].L[1].Hi, &b.L[1].L[1].Hi, 7, math.MaxInt, sign)
		}},
		{"the last", func(a, b *api.Pat, sign int) { between(&a.L[2].K, &b.L[2].K, -1, 4, sign) }},
	}
}

// signsOf has each row of n of -1, 0, 1.
func signsOf(n int) [][]int {
	all := [][]int{nil}
	for range n {
		var more [][]int
		for _, l := range all {
			for sign := -1; sign <= 1; sign++ {
				more = append(more, append(slices.Clone(l), sign))
			}
		}
		all = more
	}
	return all
}

// firstSign is what the first that differ say.
func firstSign(signs []int) int {
	for _, sign := range signs {
		if sign != 0 {
			return sign
		}
	}
	return 0
}

// stepped has two that differ as the signs say.
func stepped(signs []int) (a, b api.Pat) {
	for i, s := range steps() {
		s.set(&a, &b, signs[i])
	}
	return a, b
}

func TestFormOfOrders(t *testing.T) {
	n := len(steps())
	for i, signs := range signsOf(n) {
		a, b := stepped(signs)
		between(&a.Var, &b.Var, "a", "b", i%3-1)
		between(&a.L[0].Var, &b.L[0].Var, "a", "b", (i+i/3)%3-1)
		if order.Form(a, b) != firstSign(signs) || order.Form(b, a) != -firstSign(signs) {
			t.Errorf("%v: Form of %s and %s: %d", signs, said(a), said(b), order.Form(a, b))
		}
	}
	for i := range n {
		for j := i + 1; j < n; j++ {
			signs := make([]int, n)
			signs[i], signs[j] = -1, 1
			a, b := stepped(signs)
			wantFormAt(t, steps()[i].what+" tells ahead of "+steps()[j].what, a, b, -1)
		}
	}
}

func TestFormOfVarsAlone(t *testing.T) {
	for _, x := range texts {
		for _, y := range texts {
			want := strings.Compare(x, y)
			wantWholeAt(t, "a PAtom's Var", atom(x, "buy"), atom(y, "buy"), want)
			wantWhole(t, "a PMany's Var", many(x, "buy", 1, 0), many(y, "buy", 1, 0), want)
			wantWhole(t, "a PNot's Var", not(x, "buy"), not(y, "buy"), want)
			wantWholeAt(t, "a Var of a kind that has none", api.Pat{K: api.PSeq, Var: x}, api.Pat{K: api.PSeq, Var: y}, want)
			wantWhole(t, "a Var of no kind", api.Pat{Var: x}, api.Pat{Var: y}, want)
		}
	}
}

// varSteps are the nodes in the order in which Whole asks for their Vars.
func varSteps(p *api.Pat) []*string {
	return []*string{&p.Var, &p.L[0].Var, &p.L[1].Var, &p.L[1].L[0].Var, &p.L[1].L[0].L[0].Var, &p.L[1].L[1].Var, &p.L[2].Var}
}

func TestWholeOfOrders(t *testing.T) {
	form := seq(atom("", "t"), and(or(atom("", "t")), atom("", "t")), many("", "t", 1, 0))
	for _, signs := range signsOf(7) {
		a, b := copied(form), copied(form)
		x, y := varSteps(&a), varSteps(&b)
		for j := range x {
			between(x[j], y[j], "B", "a", signs[j])
		}
		if order.Whole(a, b) != firstSign(signs) || order.Whole(b, a) != -firstSign(signs) || order.Form(a, b) != 0 {
			t.Errorf("%v: Whole of %s and %s: %d", signs, said(a), said(b), order.Whole(a, b))
		}
	}
}

func TestWholeByFormFirst(t *testing.T) {
	wantForm(t, "a lesser Type with a greater Var", atom("z", "a"), atom("a", "b"), -1)
	wantForm(t, "a lesser kind with a greater Var", atom("z", "a"), not("a", "a"), -1)
	wantForm(t, "a lesser Lo with a greater Var", many("z", "a", 1, 0), many("a", "a", 2, 0), -1)
	wantForm(t, "a lesser Hi with a greater Var", many("z", "a", 2, 2), many("a", "a", 2, 3), -1)
	wantForm(t, "fewer parts with greater Vars", seq(atom("z", "a")), seq(atom("a", "a"), atom("a", "a")), -1)
	wantForm(t, "a later part tells ahead of an earlier one's Var", seq(atom("z", "a"), atom("z", "a")), seq(atom("a", "a"), atom("a", "b")), -1)
	wantForm(t, "a part of a part tells ahead of the whole's Var", api.Pat{K: 2, Var: "z", L: []api.Pat{or(atom("z", "a"))}}, api.Pat{K: 2, Var: "a", L: []api.Pat{or(atom("a", "b"))}}, -1)
}

func TestFormAndWholeAsTheWordsSay(t *testing.T) {
	r := rand.New(rand.NewSource(151))
	seen := map[[2]int]int{}
	ask := func(a, b api.Pat) {
		wantOrder(t, "Form", order.Form, a, b, formOf(a, b))
		wantOrder(t, "Whole", order.Whole, a, b, wholeOf(a, b))
		seen[[2]int{formOf(a, b), wholeOf(a, b)}]++
	}
	for i := range 8000 {
		p := wild(r, 1+i%4)
		ask(p, wild(r, 1+i%4))
		ask(p, changed(r, p))
		ask(p, renamed(r, p))
		ask(p, changed(r, renamed(r, p)))
	}
	for _, a := range corpus() {
		for _, b := range corpus() {
			ask(a, b)
		}
	}
	for _, c := range [][2]int{{-1, -1}, {1, 1}, {0, -1}, {0, 1}, {0, 0}} {
		if seen[c] < 300 {
			t.Errorf("Form %d and Whole %d only %d times", c[0], c[1], seen[c])
		}
	}
}

// P15.2

// listsOf has the first elements of all lists: no two may be one.
func listsOf(l []api.Pat) []*api.Pat {
	var all []*api.Pat
	if len(l) > 0 {
		all = append(all, &l[0])
	}
	for _, p := range l {
		all = append(all, listsOf(p.L)...)
	}
	return all
}

// spoil changes all that the lists hold; what shares memory with them shows that.
func spoil(l []api.Pat) {
	for i := range l {
		spoil(l[i].L)
		l[i] = api.Pat{K: 99, Var: "spoilt"}
	}
	clear(l[len(l):cap(l)])
}

func wantRow(t *testing.T, what string, call func(l []api.Pat) []api.Pat, l, want []api.Pat) {
	t.Helper()
	was := said(l...)
	got := call(l)
	if said(got...) != said(want...) || len(got) != len(want) {
		t.Errorf("%s of %s: %s, want %s", what, short(was), short(said(got...)), short(said(want...)))
	}
	if said(l...) != was {
		t.Errorf("%s changed what it was given: %s, was %s", what, short(said(l...)), short(was))
	}
	seen := map[*api.Pat]int{}
	for _, x := range listsOf(got) {
		if seen[x]++; seen[x] > 1 {
			t.Errorf("%s: two lists of the answer share memory", what)
		}
	}
	again := call(l)
	spoil(got)
	if said(l...) != was || len(again) != len(want) || said(again...) != said(want...) {
		t.Errorf("%s: the answer shares memory with what was given, or with another answer", what)
	}
}

// pats has the patterns at these places.
func pats(l []api.Pat, places ...int) []api.Pat {
	var out []api.Pat
	for _, i := range places {
		out = append(out, l[i])
	}
	return out
}

// permuted goes over all orders of the places 0 to n-1.
func permuted(n int, use func(places []int)) {
	var down func(l, left []int)
	down = func(l, left []int) {
		if len(left) == 0 {
			use(l)
		}
		for i, x := range left {
			down(append(slices.Clone(l), x), slices.Delete(slices.Clone(left), i, i+1))
		}
	}
	var all []int
	for i := range n {
		all = append(all, i)
	}
	down(nil, all)
}

func TestSort(t *testing.T) {
	a, b, c := atom("a", "buy"), atom("b", "buy"), atom("c", "sell")
	wantRow(t, "Sort", order.Sort, nil, nil)
	wantRow(t, "Sort", order.Sort, []api.Pat{}, nil)
	for _, p := range corpus() {
		wantRow(t, "Sort of one", order.Sort, []api.Pat{p}, []api.Pat{p})
	}
	wantRow(t, "Sort of two", order.Sort, []api.Pat{a, c}, []api.Pat{a, c})
	wantRow(t, "Sort of two", order.Sort, []api.Pat{c, a}, []api.Pat{a, c})
	wantRow(t, "Sort of two of one form", order.Sort, []api.Pat{a, b}, []api.Pat{a, b})
	wantRow(t, "Sort of two of one form", order.Sort, []api.Pat{b, a}, []api.Pat{b, a})
	wantRow(t, "Sort", order.Sort, []api.Pat{c, b, a}, []api.Pat{b, a, c})
	wantRow(t, "Sort of the same", order.Sort, []api.Pat{b, a, b, b, a}, []api.Pat{b, a, b, b, a})
	wantRow(t, "Sort keeps all", order.Sort, []api.Pat{c, a, c, a, c}, []api.Pat{a, a, c, c, c})
	wantRow(t, "Sort with zero patterns", order.Sort, []api.Pat{c, {}, {Var: "b"}, {K: -1}, {Var: "a"}}, []api.Pat{{K: -1}, {}, {Var: "b"}, {Var: "a"}, c})
	kinds := []api.Pat{a, seq(a, b), and(a, b), or(a, b), many("a", "buy", 1, 0), not("a", "buy")}
	permuted(6, func(places []int) {
		wantRow(t, "Sort of all kinds", order.Sort, pats(kinds, places...), kinds)
	})
}

// TestSortOfForms has three forms, two of them with several Vars: each keeps its order, whatever comes between.
func TestSortOfForms(t *testing.T) {
	all := []api.Pat{atom("c", "buy"), atom("a", "buy"), atom("b", "buy"), seq(atom("z", "buy"), atom("y", "buy")), seq(atom("a", "buy"), atom("b", "buy")), not("n", "buy")}
	permuted(len(all), func(places []int) {
		var want []api.Pat
		for _, k := range []int{api.PAtom, api.PSeq, api.PNot} {
			for _, i := range places {
				if all[i].K == k {
					want = append(want, all[i])
				}
			}
		}
		wantRow(t, "Sort", order.Sort, pats(all, places...), want)
	})
}

func TestSortOfRows(t *testing.T) {
	for n := range 40 {
		var up, down []api.Pat
		for i := range n {
			up = append(up, many(fmt.Sprint("v", n-i), "t", i/3, 0))
		}
		for _, p := range slices.Backward(up) {
			down = append(down, p)
		}
		wantRow(t, "Sort of a sorted row", order.Sort, up, up)
		wantRow(t, "Sort of a row turned round", order.Sort, down, sortOf(down))
	}
}

func TestUnique(t *testing.T) {
	a, b, c := atom("a", "buy"), atom("b", "buy"), atom("c", "sell")
	wantRow(t, "Unique", order.Unique, nil, nil)
	wantRow(t, "Unique", order.Unique, []api.Pat{}, nil)
	for _, p := range corpus() {
		wantRow(t, "Unique of one", order.Unique, []api.Pat{p}, []api.Pat{p})
		wantRow(t, "Unique of it twice", order.Unique, []api.Pat{p, copied(p)}, []api.Pat{p})
		wantRow(t, "Unique of it thrice, side by side", order.Unique, []api.Pat{c, p, p, p, a}, uniqueOf([]api.Pat{c, p, a}))
		wantRow(t, "Unique of it thrice, apart", order.Unique, []api.Pat{p, c, p, a, p}, uniqueOf([]api.Pat{p, c, a}))
	}
	for _, x := range [][2][]api.Pat{
		{{a, b}, {a, b}}, {{b, a}, {b, a}}, {{c, b, a}, {c, b, a}}, {{c, b, c, a, b}, {c, b, a}}, {{c, c, a, a, b, b}, {c, a, b}}, {{a, b, a, b, a, b}, {a, b}},
		{{b, b, b}, {b}}, {{c, a, a}, {c, a}}, {{a, c, a}, {a, c}}, {{a, a, c}, {a, c}}, {{{}, {}, a, {}}, {{}, a}}, {{{}, {L: []api.Pat{}}}, {{}}},
	} {
		wantRow(t, "Unique", order.Unique, x[0], x[1])
	}
}

// TestUniqueByAllFields has for each field of a node and of its part two patterns that differ in it alone: all stay.
func TestUniqueByAllFields(t *testing.T) {
	base := api.Pat{K: 2, Var: "v", Type: "t", Lo: 1, Hi: 2, L: []api.Pat{atom("a", "buy"), atom("b", "buy")}}
	all := []api.Pat{base}
	for i := range 3 {
		for _, change := range []func(x *api.Pat){
			func(x *api.Pat) { x.K++ }, func(x *api.Pat) { x.Var += "a" }, func(x *api.Pat) { x.Var = "" }, func(x *api.Pat) { x.Type += "a" }, func(x *api.Pat) { x.Lo++ },
			func(x *api.Pat) { x.Hi++ }, func(x *api.Pat) { x.L = append(x.L, api.Pat{}) },
		} {
			p := copied(base)
			change([]*api.Pat{&p, &p.L[0], &p.L[1]}[i])
			all = append(all, p)
		}
	}
	wantRow(t, "Unique of unlike ones", order.Unique, all, all)
	turned := slices.Clone(all)
	slices.Reverse(turned)
	wantRow(t, "Unique of unlike ones, turned round", order.Unique, turned, turned)
	wantRow(t, "Unique of all twice", order.Unique, append(slices.Clone(all), turned...), all)
	wantRow(t, "Unique of all twice", order.Unique, append(slices.Clone(turned), all...), turned)
}

func TestRowsAsTheWordsSay(t *testing.T) {
	r := rand.New(rand.NewSource(152))
	moved, dropped, kept := 0, 0, 0
	for i := range 1500 {
		l := wildRow(r, i%25)
		wantRow(t, "Sort", order.Sort, l, sortOf(l))
		wantRow(t, "Unique", order.Unique, l, uniqueOf(l))
		if said(sortOf(l)...) != said(l...) {
			moved++
		}
		switch n := len(uniqueOf(l)); {
		case n < len(l):
			dropped++
		case n > 1:
			kept++
		}
	}
	if moved < 1000 || dropped < 1000 || kept < 50 {
		t.Errorf("moved %d, dropped %d, kept %d", moved, dropped, kept)
	}
}

func condLists(l []api.Expr) []*api.Expr {
	var all []*api.Expr
	if len(l) > 0 {
		all = append(all, &l[0])
	}
	for _, x := range l {
		all = append(all, condLists(x.L)...)
	}
	return all
}

func spoilConds(l []api.Expr) {
	for i := range l {
		spoilConds(l[i].L)
		l[i] = api.Expr{K: 99, Var: "spoilt"}
	}
	clear(l[len(l):cap(l)])
}

func wantConds(t *testing.T, what string, l, want []api.Expr) {
	t.Helper()
	was := saidConds(l...)
	got := order.Conds(l)
	if saidConds(got...) != saidConds(want...) || len(got) != len(want) {
		t.Errorf("Conds of %s, %s: %s, want %s", what, short(was), short(saidConds(got...)), short(saidConds(want...)))
	}
	if saidConds(l...) != was {
		t.Errorf("Conds of %s changed what it was given", what)
	}
	seen := map[*api.Expr]int{}
	for _, x := range condLists(got) {
		if seen[x]++; seen[x] > 1 {
			t.Errorf("Conds of %s: two lists of the answer share memory", what)
		}
	}
	again := order.Conds(l)
	spoilConds(got)
	if saidConds(l...) != was || len(again) != len(want) || saidConds(again...) != saidConds(want...) {
		t.Errorf("Conds of %s: the answer shares memory with what was given, or with another answer", what)
	}
}

// condRow has conditions of many sorts, each less than the next: right ones, and others that are not.
func condRow() []api.Expr {
	x, y := field("a", "x"), field("b", "x")
	return []api.Expr{
		{K: -1}, {}, num(-1), num(1), num(2), text(""), text("a"), field("B", "x"), field("a", "x"), field("a", "y"), field("aa", "x"), op(api.XNeg), op(api.XNeg, x), op(api.XAdd, x, y), op(api.XAdd, y, x),
		op(api.XEq, x, num(1)), op(api.XEq, num(1), x, x), op(api.XLt, num(1), x), op(api.XLt, x, num(1)), op(api.XLt, x, num(2)), op(api.XNot, op(api.XLt, x, num(1))), op(api.XAnd, op(api.XLt, x, y), op(api.XLt, x, y)), op(api.XOr), {K: 99},
	}
}

func TestConds(t *testing.T) {
	wantConds(t, "nil", nil, nil)
	wantConds(t, "none", []api.Expr{}, nil)
	up := condRow()
	down := slices.Clone(up)
	slices.Reverse(down)
	wantConds(t, "a sorted row", up, up)
	wantConds(t, "a row turned round", down, up)
	wantConds(t, "both", append(slices.Clone(up), down...), up)
	wantConds(t, "both", append(slices.Clone(down), up...), up)
	for i, x := range up {
		wantConds(t, "one", []api.Expr{x}, []api.Expr{x})
		wantConds(t, "one twice", []api.Expr{x, copiedCond(x)}, []api.Expr{x})
		wantConds(t, "one thrice", []api.Expr{x, x, x}, []api.Expr{x})
		for _, y := range up[i+1:] {
			want := []api.Expr{x, y}
			wantConds(t, "two", []api.Expr{x, y}, want)
			wantConds(t, "two turned round", []api.Expr{y, x}, want)
			wantConds(t, "one twice, apart", []api.Expr{x, y, x}, want)
			wantConds(t, "the other twice, apart", []api.Expr{y, x, y}, want)
			wantConds(t, "one twice, side by side", []api.Expr{y, x, x}, want)
			wantConds(t, "both twice", []api.Expr{y, x, y, x}, want)
		}
	}
	wantConds(t, "nil and empty parts", []api.Expr{{K: 3, L: []api.Expr{}}, {K: 3}}, []api.Expr{{K: 3}})
	some := []api.Expr{up[3], up[7], up[13], up[17], up[22]}
	permuted(len(some), func(places []int) {
		var l []api.Expr
		for _, i := range places {
			l = append(l, some[i])
		}
		wantConds(t, "each order", l, some)
		wantConds(t, "each order with some again", append(l, l[2], l[0]), some)
	})
}

func TestCondsAsTheWordsSay(t *testing.T) {
	r := rand.New(rand.NewSource(153))
	dropped := 0
	for i := range 3000 {
		l := wildConds(r, i%20)
		wantConds(t, "some", l, condsOf(l))
		if len(condsOf(l)) < len(l) {
			dropped++
		}
	}
	if dropped < 1000 {
		t.Errorf("only %d have one twice", dropped)
	}
}

// P15.3

func TestFormDoesNotHangOnNames(t *testing.T) {
	r := rand.New(rand.NewSource(154))
	all := corpus()
	for _, p := range all {
		for range 5 {
			wantOrder(t, "Form of a renamed one", order.Form, p, renamed(r, p), 0)
		}
		vars, _, _ := pat.Vars(p)
		to := slices.Clone(vars)
		slices.Reverse(to)
		wantOrder(t, "Form of one with other Vars", order.Form, p, pat.Rename(p, vars, to), 0)
	}
	for _, a := range all {
		for _, b := range all {
			if order.Form(a, b) != order.Form(renamed(r, a), renamed(r, b)) {
				t.Errorf("Form of %s and %s hangs on their names", said(a), said(b))
			}
		}
	}
}

func TestWholeIsNoneJustForTheSame(t *testing.T) {
	r := rand.New(rand.NewSource(155))
	ask := func(a, b api.Pat) {
		if (order.Whole(a, b) == 0) != pat.Same(a, b) || (order.Whole(a, b) == 0) != (said(a) == said(b)) {
			t.Errorf("Whole of %s and %s: %d", said(a), said(b), order.Whole(a, b))
		}
	}
	all := corpus()
	for _, a := range all {
		for _, b := range all {
			ask(a, b)
		}
		for range 50 {
			ask(a, changed(r, a))
			ask(a, renamed(r, a))
			ask(a, changed(r, changed(r, a)))
		}
	}
}

// TestOrdersGoOn asks of each three: what is less than one is less than what that is less than.
func TestOrdersGoOn(t *testing.T) {
	r := rand.New(rand.NewSource(156))
	l := append(corpus()[:40], wildRow(r, 60)...)
	for _, call := range []func(a, b api.Pat) int{order.Form, order.Whole} {
		for _, a := range l {
			for _, b := range l {
				for _, c := range l {
					if call(a, b) <= 0 && call(b, c) <= 0 && call(a, c) > 0 {
						t.Errorf("%s, %s, %s", said(a), said(b), said(c))
					}
				}
			}
		}
	}
}

// TestSortedAndUniqueHoldOn: what is sorted is not moved again, and what is once each not dropped again.
func TestSortedAndUniqueHoldOn(t *testing.T) {
	r := rand.New(rand.NewSource(157))
	for i := range 1000 {
		l := wildRow(r, i%20)
		s, u := order.Sort(l), order.Unique(l)
		wantRow(t, "Sort of what is sorted", order.Sort, s, s)
		wantRow(t, "Unique of what is unique", order.Unique, u, u)
		if len(order.Unique(s)) != len(u) {
			t.Errorf("%s: as many are unique, sorted or not", short(said(l...)))
		}
		c := order.Conds(wildConds(r, i%20))
		wantConds(t, "what is sorted and once each", c, c)
	}
}

// P1: calls end, and none panics.

// chain goes n nodes down to leaf, each the only part of the one above.
func chain(n int, leaf api.Pat) api.Pat {
	for i := range n - 1 {
		leaf = row(rows[i%3], leaf)
	}
	return leaf
}

// stairs goes n nodes down to leaf: each has an atom ahead of the next one down.
func stairs(n int, leaf api.Pat) api.Pat {
	for i := range n - 1 {
		leaf = row(rows[i%3], atom("s", "t"), leaf)
	}
	return leaf
}

func condChain(n int, leaf api.Expr) api.Expr {
	for range n - 1 {
		leaf = op(api.XNot, leaf)
	}
	return leaf
}

func TestNestedAsDeepAsMayBe(t *testing.T) {
	const n = 1 << 16
	for _, down := range []func(n int, leaf api.Pat) api.Pat{chain, stairs} {
		a, b, c := down(n, atom("a", "x")), down(n, atom("b", "x")), down(n, atom("a", "y"))
		if order.Form(a, b) != 0 || order.Whole(a, b) != -1 || order.Whole(b, a) != 1 || order.Form(a, c) != -1 || order.Whole(c, b) != 1 || order.Whole(a, down(n, atom("a", "x"))) != 0 {
			t.Error("Form or Whole of what is deep")
		}
		if l := order.Sort([]api.Pat{c, b, a, b}); len(l) != 4 || !pat.Same(l[0], b) || !pat.Same(l[1], a) || !pat.Same(l[2], b) || !pat.Same(l[3], c) {
			t.Error("Sort of what is deep")
		}
		if l := order.Unique([]api.Pat{c, b, a, b, c}); len(l) != 3 || !pat.Same(l[0], c) || !pat.Same(l[1], b) || !pat.Same(l[2], a) {
			t.Error("Unique of what is deep")
		}
	}
	x, y := condChain(n, num(1)), condChain(n, num(2))
	if l := order.Conds([]api.Expr{y, x, y, x}); len(l) != 2 || !expr.Same(l[0], x) || !expr.Same(l[1], y) {
		t.Error("Conds of what is deep")
	}
}

func TestLongRows(t *testing.T) {
	const n = 1 << 16
	var l []api.Pat
	var x []api.Expr
	for i := range n {
		l = append(l, many(fmt.Sprint("v", i), "t", (n-i)/4, 0))
		x = append(x, num(int64((n-i)/2)))
	}
	want := slices.Clone(l)
	slices.SortStableFunc(want, func(a, b api.Pat) int { return a.Lo - b.Lo })
	if s := order.Sort(l); said(s...) != said(want...) {
		t.Error("Sort of a long row")
	}
	if u := order.Unique(append(slices.Clone(l), l...)); len(u) != n || u[0].Var != "v0" || u[n-1].Var != fmt.Sprint("v", n-1) {
		t.Errorf("Unique of a long row: %d", len(u))
	}
	if c := order.Conds(x); len(c) != n/2+1 || c[0].V.N != 0 || c[n/2].V.N != n/2 {
		t.Errorf("Conds of a long row: %d", len(c))
	}
	a, b := seq(l...), seq(append(slices.Clone(l[:n-1]), many("z", "t", 0, 0))...)
	if order.Form(a, b) != 0 || order.Whole(a, b) != -1 || order.Form(a, seq(l[1:]...)) != 1 {
		t.Error("Form or Whole of many parts")
	}
}

// P3 and P4: nil and empty lists are the same; what is handed in is neither changed nor kept.

// roomy has the patterns in lists with room behind them, in which others lie.
func roomy(l []api.Pat) []api.Pat {
	out := make([]api.Pat, len(l), len(l)+2)
	for i, p := range l {
		p.L = roomy(p.L)
		out[i] = p
	}
	copy(out[len(l):cap(out)], []api.Pat{{K: 77, Var: "room"}, {K: 78, Var: "room"}})
	return out
}

func roomIsLeft(l []api.Pat) bool {
	room := l[len(l):cap(l)]
	return len(room) == 2 && room[0].K == 77 && room[1].K == 78 && !slices.ContainsFunc(l, func(p api.Pat) bool { return !roomIsLeft(p.L) })
}

func roomyConds(l []api.Expr) []api.Expr {
	out := make([]api.Expr, len(l), len(l)+2)
	for i, x := range l {
		x.L = roomyConds(x.L)
		out[i] = x
	}
	copy(out[len(l):cap(out)], []api.Expr{{K: 77, Var: "room"}, {K: 78, Var: "room"}})
	return out
}

func condRoomIsLeft(l []api.Expr) bool {
	room := l[len(l):cap(l)]
	return len(room) == 2 && room[0].K == 77 && room[1].K == 78 && !slices.ContainsFunc(l, func(x api.Expr) bool { return !condRoomIsLeft(x.L) })
}

func TestWhatIsHandedIn(t *testing.T) {
	r := rand.New(rand.NewSource(158))
	for i := range 1000 {
		l, c := wildRow(r, i%20), wildConds(r, i%20)
		x, y := roomy(l), roomyConds(c)
		wantRow(t, "Sort of one with room behind its lists", order.Sort, x, sortOf(l))
		wantRow(t, "Unique of one with room behind its lists", order.Unique, x, uniqueOf(l))
		wantConds(t, "one with room behind its lists", y, condsOf(c))
		for j, p := range x {
			wantOrder(t, "Form of one with empty lists", order.Form, p, l[j], 0)
			wantOrder(t, "Whole of one with empty lists", order.Whole, p, l[j], 0)
			wantOrder(t, "Whole", order.Whole, p, x[0], wholeOf(l[j], l[0]))
		}
		if !roomIsLeft(x) || !condRoomIsLeft(y) || said(x...) != said(l...) {
			t.Errorf("%s: what lies behind its lists is changed", short(said(l...)))
		}
	}
}

// TestSharedParts hands in patterns and conditions that share their parts: the answers share none.
func TestSharedParts(t *testing.T) {
	parts := []api.Pat{atom("b", "sell"), or(atom("c", "buy"), atom("a", "buy"))}
	l := []api.Pat{row(4, parts...), row(2, parts...), row(2, parts...), row(3, parts[1:]...), parts[1]}
	wantRow(t, "Sort", order.Sort, l, sortOf(l))
	wantRow(t, "Unique", order.Unique, l, uniqueOf(l))
	conds := []api.Expr{op(api.XNot, field("b", "x")), field("a", "x")}
	m := []api.Expr{op(17, conds...), op(16, conds...), op(16, conds...), op(15, conds[1:]...), conds[0]}
	wantConds(t, "shared parts", m, condsOf(m))
}

func FuzzOrder(f *testing.F) {
	for i := range int64(8) {
		f.Add(i, "a", "b", 1, 2)
	}
	f.Fuzz(func(t *testing.T, seed int64, s, u string, n, m int) {
		r := rand.New(rand.NewSource(seed))
		l := append(wildRow(r, r.Intn(8)), atom(s, u), atom(u, s), many(s, u, n, m), many(u, s, m, n), seq(atom(s, u), atom(u, u)), seq(atom(u, u), atom(s, u)))
		l = append(l, changed(r, pick(r, l)), renamed(r, pick(r, l)))
		for _, a := range l {
			b := pick(r, l)
			wantOrder(t, "Form", order.Form, a, b, formOf(a, b))
			wantOrder(t, "Whole", order.Whole, a, b, wholeOf(a, b))
		}
		wantRow(t, "Sort", order.Sort, l, sortOf(l))
		wantRow(t, "Unique", order.Unique, l, uniqueOf(l))
		c := append(wildConds(r, r.Intn(8)), field(s, u), field(u, s), num(int64(n)), text(s), op(n, field(s, u)))
		wantConds(t, "fuzz", c, condsOf(c))
	})
}
