package expr_test

import (
	"fmt"
	"maps"
	"math"
	"math/rand"
	"slices"
	"strings"
	"testing"

	"haruspex/api"
	"haruspex/expr"
)

const allKinds = api.XOr

var (
	null  = api.Value{}
	yes   = api.Value{K: api.VBool, N: 1}
	no    = api.Value{K: api.VBool}
	most  = strings.Repeat("n", api.MaxName)
	full  = strings.Repeat("t", api.MaxText)
	two   = []int{api.XAdd, api.XSub, api.XMul, api.XDiv, api.XMod, api.XEq, api.XNe, api.XLt, api.XLe, api.XGt, api.XGe}
	one   = []int{api.XNeg, api.XNot}
	more  = []int{api.XAnd, api.XOr}
	names = []string{"", "a", "b", "ab", "a1_", "A", "0", "_", "é", most, most + "n", "b\x00"}
)

func number(n int64) api.Value { return api.Value{K: api.VInt, N: n} }

func text(s string) api.Value { return api.Value{K: api.VText, S: s} }

func fixed(v api.Value) api.Expr { return api.Expr{K: api.XConst, V: v} }

func num(n int64) api.Expr { return fixed(number(n)) }

func field(v, f string) api.Expr { return api.Expr{K: api.XField, Var: v, Field: f} }

func op(k int, l ...api.Expr) api.Expr { return api.Expr{K: k, L: l} }

func not(x api.Expr) api.Expr { return op(api.XNot, x) }

// some has n constants, from 0 on.
func some(n int) []api.Expr {
	l := make([]api.Expr, n)
	for i := range l {
		l[i] = num(int64(i))
	}
	return l
}

// chain has n nodes, one below the other, down to leaf.
func chain(n int, leaf api.Expr) api.Expr {
	for range n - 1 {
		leaf = not(leaf)
	}
	return leaf
}

// stairs has 2n+1 nodes: each sum has the next one as its part at that place.
func stairs(n, at int) api.Expr {
	x := field("a", "x")
	for i := range n {
		l := []api.Expr{num(int64(i)), num(int64(i))}
		l[at] = x
		x = op(api.XAdd, l...)
	}
	return x
}

// leaves are right conditions without parts.
func leaves() []api.Expr {
	var l []api.Expr
	for _, v := range []api.Value{null, yes, no, number(0), number(1), number(-1), number(2), number(math.MaxInt64), number(math.MinInt64), text(""), text("a"), text("é\x00\xff"), text(full)} {
		l = append(l, fixed(v))
	}
	for _, a := range []string{"a", "b", "a1_", most} {
		l = append(l, field(a, "x"), field("v", a), field(a, a))
	}
	return l
}

// rights has conditions of each kind that are right.
func rights() []api.Expr {
	a, b, c := field("a", "x"), field("b", "y"), num(7)
	all := leaves()
	for _, k := range one {
		all = append(all, op(k, a), op(k, c), op(k, op(k, a)), op(k, op(api.XAnd, a, b)))
	}
	for _, k := range two {
		all = append(all, op(k, a, b), op(k, b, a), op(k, c, c), op(k, op(k, a, b), c), op(k, a, op(k, b, c)), op(k, op(api.XOr, a, b), op(api.XNot, c)))
	}
	for _, k := range more {
		other := api.XAnd + api.XOr - k
		all = append(all, op(k, a, b), op(k, a, a), op(k, a, b, c), op(k, some(api.MaxExpr-1)...), op(k, op(other, a, b), op(other, c, a)), op(k, a, op(other, b, op(k, a, c))), op(k, a, op(api.XNot, op(k, b, c))), op(k, op(api.XEq, op(k, a, b), c), c))
	}
	return append(all, chain(api.MaxExpr, a), stairs(49, 0), stairs(49, 1))
}

// notRight are conditions of which just the node itself is not right; all its parts are.
func notRight() map[string]api.Expr {
	a, b := field("a", "x"), num(7)
	all := map[string]api.Expr{
		"zero": {}, "zero kind with a constant": {V: yes}, "zero kind with names": {Var: "a", Field: "x"}, "zero kind with parts": op(0, a, b),
	}
	for _, k := range []int{-1, allKinds + 1, allKinds + 2, math.MaxInt, math.MinInt, 1 << 8, 1<<8 + 1, 1<<32 + 1, 1<<32 + 16} {
		for n := range 4 {
			all[fmt.Sprintf("kind %d of %d parts", k, n)] = op(k, some(n)...)
		}
		all[fmt.Sprintf("kind %d with a constant", k)] = api.Expr{K: k, V: yes}
		all[fmt.Sprintf("kind %d with names", k)] = api.Expr{K: k, Var: "a", Field: "x"}
	}
	for i, v := range []api.Value{{N: 1}, {S: "x"}, {K: 4}, {K: -1}, {K: 9}, {K: math.MaxInt}, {K: math.MinInt}, {K: 1<<32 + 1}, {K: api.VBool, N: 2}, {K: api.VBool, N: -1}, {K: api.VBool, S: "x"}, {K: api.VInt, S: "x"}, {K: api.VInt, N: 7, S: "x"}, {K: api.VText, N: 1}, {K: api.VText, N: 1, S: "x"}, text(full + "t")} {
		all[fmt.Sprint("constant ", i)] = fixed(v)
	}
	for _, s := range []string{"", "A", "aB", "1", "_", "_a", "a b", "a.", "é", "a\x00", "a\xff", most + "n"} {
		all[fmt.Sprintf("Var %q", s)] = field(s, "x")
		all[fmt.Sprintf("Field %q", s)] = field("a", s)
		all[fmt.Sprintf("both %q", s)] = field(s, s)
	}
	for _, k := range append(slices.Clone(one), two...) {
		for _, n := range []int{0, 1, 2, 3, 4, 50, api.MaxExpr - 1} {
			if n != 2 && slices.Contains(two, k) || n != 1 && slices.Contains(one, k) {
				all[fmt.Sprintf("%d of %d parts", k, n)] = op(k, some(n)...)
			}
		}
	}
	for _, k := range more {
		in := op(k, a, b)
		all[fmt.Sprint(k, " of none")] = op(k)
		all[fmt.Sprint(k, " of one")] = op(k, a)
		all[fmt.Sprint(k, " of one of its kind")] = op(k, in)
		all[fmt.Sprint(k, " with its kind first")] = op(k, in, a)
		all[fmt.Sprint(k, " with its kind last")] = op(k, a, in)
		all[fmt.Sprint(k, " with its kind between")] = op(k, a, in, b)
		all[fmt.Sprint(k, " with its kind alone")] = op(k, in, in)
		all[fmt.Sprint(k, " with its kind behind many")] = op(k, append(some(96), in)...)
	}
	maps.Copy(all, unlike())
	return all
}

// unlike has, for each kind, each field that it does not have, not zero; all else is right.
func unlike() map[string]api.Expr {
	all := map[string]api.Expr{}
	a := field("a", "x")
	for k := 1; k <= allKinds; k++ {
		x := op(k, a, num(7))
		switch {
		case k == api.XConst:
			x = fixed(yes)
		case k == api.XField:
			x = a
		case slices.Contains(one, k):
			x = op(k, a)
		}
		set := func(what string, change func(*api.Expr)) {
			y := copied(x)
			change(&y)
			all[fmt.Sprintf("kind %d with %s", k, what)] = y
		}
		if k != api.XConst {
			for i, v := range []api.Value{yes, no, number(0), number(7), text(""), text("x"), {N: 1}, {S: "x"}, {K: -1}, {K: 4}} {
				set(fmt.Sprint("V ", i), func(y *api.Expr) { y.V = v })
			}
		}
		if k != api.XField {
			for _, s := range []string{"a", "A", "\x00", most + "n"} {
				set(fmt.Sprintf("Var %q", s), func(y *api.Expr) { y.Var = s })
				set(fmt.Sprintf("Field %q", s), func(y *api.Expr) { y.Field = s })
				set(fmt.Sprintf("both %q", s), func(y *api.Expr) { y.Var, y.Field = s, s })
			}
		}
		if k <= api.XField {
			for n := 1; n <= 3; n++ {
				set(fmt.Sprintf("%d parts", n), func(y *api.Expr) { y.L = some(n) })
			}
			set("a part that can't be", func(y *api.Expr) { y.L = []api.Expr{{}} })
		}
	}
	return all
}

// around sets x at each place of right conditions, up to some way down.
func around(x api.Expr) []api.Expr {
	a, b := field("a", "x"), num(7)
	l := []api.Expr{op(api.XNeg, x), not(x), op(api.XAdd, x, a), op(api.XAdd, a, x), op(api.XLt, b, x), op(api.XGe, x, b), op(api.XSub, a, op(api.XMul, b, x)), not(not(not(x))), op(api.XEq, op(api.XMod, op(api.XNeg, op(api.XDiv, x, a)), b), a)}
	for _, k := range more {
		if x.K != k {
			l = append(l, op(k, x, a), op(k, a, x), op(k, a, x, b), op(k, a, b, x), op(k, a, not(op(k, b, not(x)))))
		}
	}
	return l
}

func copied(x api.Expr) api.Expr {
	if x.L != nil {
		l := make([]api.Expr, len(x.L))
		for i, p := range x.L {
			l[i] = copied(p)
		}
		x.L = l
	}
	return x
}

// said tells all fields of all nodes, so two are the same if this is.
func said(x api.Expr) string {
	var b strings.Builder
	var tell func(x api.Expr)
	tell = func(x api.Expr) {
		fmt.Fprintf(&b, "(%d %d %d %q %q %q %d", x.K, x.V.K, x.V.N, x.V.S, x.Var, x.Field, len(x.L))
		for _, p := range x.L {
			tell(p)
		}
		b.WriteByte(')')
	}
	tell(x)
	return b.String()
}

func short(x api.Expr) string { return fmt.Sprintf("%.200s", said(x)) }

// Models of the chapter's words, by other means.

func sizeOf(x api.Expr) int {
	n := 1
	for _, p := range x.L {
		n += sizeOf(p)
	}
	return n
}

func deepOf(x api.Expr) int {
	n := 0
	for _, p := range x.L {
		n = max(n, deepOf(p))
	}
	return n + 1
}

func isName(s string) bool {
	for i, c := range []byte(s) {
		if !('a' <= c && c <= 'z' || i > 0 && ('0' <= c && c <= '9' || c == '_')) {
			return false
		}
	}
	return 1 <= len(s) && len(s) <= 32
}

func isValue(v api.Value) bool {
	switch v.K {
	case 0:
		return v.N == 0 && v.S == ""
	case 1:
		return (v.N == 0 || v.N == 1) && v.S == ""
	case 2:
		return v.S == ""
	case 3:
		return v.N == 0 && len(v.S) <= 256
	}
	return false
}

func isRight(x api.Expr) bool {
	for _, p := range x.L {
		if !isRight(p) || (x.K == 16 || x.K == 17) && p.K == x.K {
			return false
		}
	}
	if x.K != 1 && x.V != null || x.K != 2 && x.Var+x.Field != "" {
		return false
	}
	least, most := map[int]int{1: 0, 2: 0, 3: 1, 15: 1, 16: 2, 17: 2}[x.K], math.MaxInt
	if x.K < 16 {
		most = least
	}
	if 4 <= x.K && x.K <= 14 {
		least, most = 2, 2
	}
	return 1 <= x.K && x.K <= 17 && least <= len(x.L) && len(x.L) <= most && isValue(x.V) && (x.K != 2 || isName(x.Var) && isName(x.Field))
}

func checked(x api.Expr) api.Errno {
	if sizeOf(x) > 100 {
		return 2
	}
	if !isRight(x) {
		return 1
	}
	return 0
}

func byNumber[T int | int64](a, b T) int {
	if a < b {
		return -1
	}
	if a > b {
		return 1
	}
	return 0
}

func ordered(a, b api.Expr) int {
	l := []int{byNumber(a.K, b.K), byNumber(a.V.K, b.V.K), byNumber(a.V.N, b.V.N), strings.Compare(a.V.S, b.V.S), strings.Compare(a.Var, b.Var), strings.Compare(a.Field, b.Field), byNumber(len(a.L), len(b.L))}
	for i := 0; i < len(a.L) && i < len(b.L); i++ {
		l = append(l, ordered(a.L[i], b.L[i]))
	}
	for _, c := range l {
		if c != 0 {
			return c
		}
	}
	return 0
}

func varsOf(x api.Expr) []string {
	seen := map[string]bool{}
	var look func(x api.Expr)
	look = func(x api.Expr) {
		if x.K == api.XField {
			seen[x.Var] = true
		}
		for _, p := range x.L {
			look(p)
		}
	}
	look(x)
	var l []string
	for v := range seen {
		l = append(l, v)
	}
	slices.Sort(l)
	return l
}

func renamed(x api.Expr, from, to []string) api.Expr {
	x = copied(x)
	for i := range x.L {
		x.L[i] = renamed(x.L[i], from, to)
	}
	if x.K == api.XField {
		for i, s := range from {
			if s == x.Var {
				if i < len(to) {
					x.Var = to[i]
				}
				break
			}
		}
	}
	return x
}

func joined(k int, l []api.Expr) api.Expr {
	if k < 16 || k > 17 {
		return api.Expr{}
	}
	out := api.Expr{K: k}
	for _, x := range l {
		if x.K == k {
			out.L = slices.Concat(out.L, x.L)
			continue
		}
		out.L = slices.Concat(out.L, []api.Expr{x})
	}
	if len(out.L) == 1 {
		return out.L[0]
	}
	if len(out.L) == 0 {
		return api.Expr{K: 1, V: api.Value{K: 1, N: int64(17 - k)}}
	}
	return out
}

// Trees at random.

func pick[T any](r *rand.Rand, l []T) T { return l[r.Intn(len(l))] }

// wild may be anything: most of these are not right.
func wild(r *rand.Rand, deep int) api.Expr {
	x := api.Expr{K: r.Intn(allKinds+3) - 1}
	if r.Intn(3) == 0 {
		x.V = pick(r, []api.Value{yes, no, number(1), number(-1), text("a"), text("b"), {K: 4}, {N: 1}})
	}
	if r.Intn(3) == 0 {
		x.Var = pick(r, names)
	}
	if r.Intn(3) == 0 {
		x.Field = pick(r, names)
	}
	if deep > 1 {
		for range r.Intn(4) {
			x.L = append(x.L, wild(r, deep-1))
		}
	}
	if len(x.L) == 0 && r.Intn(2) == 0 {
		x.L = []api.Expr{}
	}
	return x
}

// tame is right, if it has no more than MaxExpr nodes.
func tame(r *rand.Rand, deep int, but int) api.Expr {
	k := 1 + r.Intn(allKinds)
	if deep <= 1 {
		k = 1 + r.Intn(2)
	}
	n := 2
	switch {
	case k == but:
		return tame(r, deep, but)
	case k == api.XConst:
		return fixed(pick(r, []api.Value{null, yes, no, number(0), number(r.Int63()), text(""), text("a")}))
	case k == api.XField:
		return field(pick(r, []string{"a", "b", "c", most}), pick(r, []string{"x", "y"}))
	case slices.Contains(one, k):
		n = 1
	case k >= api.XAnd:
		n = 2 + r.Intn(3)
		but = k
	}
	if k < api.XAnd {
		but = 0
	}
	x := api.Expr{K: k}
	for range n {
		x.L = append(x.L, tame(r, deep-1, but))
	}
	return x
}

// changed differs from x in one field of one node, or in one part more or less.
func changed(r *rand.Rand, x api.Expr) api.Expr {
	x = copied(x)
	y := &x
	for len(y.L) > 0 && r.Intn(4) != 0 {
		y = &y.L[r.Intn(len(y.L))]
	}
	switch r.Intn(7) {
	case 0:
		y.K++
	case 1:
		y.V.K++
	case 2:
		y.V.N++
	case 3:
		y.V.S += "a"
	case 4:
		y.Var += "a"
	case 5:
		y.Field += "a"
	default:
		if len(y.L) == 0 || r.Intn(2) == 0 {
			y.L = append(y.L, num(1))
		} else {
			y.L = y.L[:len(y.L)-1]
		}
	}
	return x
}

func corpus() []api.Expr {
	r := rand.New(rand.NewSource(9))
	all := rights()
	for _, x := range notRight() {
		all = append(all, x, not(x))
	}
	slices.SortFunc(all, ordered)
	for i := range 200 {
		all = append(all, wild(r, 1+i%5), tame(r, 1+i%5, 0))
	}
	return all
}

func wantCheck(t *testing.T, what string, x api.Expr, want api.Errno) {
	t.Helper()
	was := said(x)
	if got := expr.Check(x); got != want {
		t.Errorf("Check of %s, %s: %d, want %d", what, short(x), got, want)
	}
	if said(x) != was {
		t.Errorf("Check of %s changed it", what)
	}
}

func wantExpr(t *testing.T, what string, got, want api.Expr) {
	t.Helper()
	if said(got) != said(want) {
		t.Errorf("%s: %s, want %s", what, short(got), short(want))
	}
}

// spoil changes all that an answer's lists hold; what shares memory with it shows that.
func spoil(x api.Expr) {
	for i := range x.L {
		spoil(x.L[i])
		x.L[i] = api.Expr{K: 99, Var: "spoilt"}
	}
	if n := cap(x.L); n > len(x.L) {
		clear(x.L[len(x.L):n])
	}
}

// lists has the first elements of all lists of x: no two may be one.
func lists(x api.Expr) []*api.Expr {
	var l []*api.Expr
	if len(x.L) > 0 {
		l = append(l, &x.L[0])
	}
	for _, p := range x.L {
		l = append(l, lists(p)...)
	}
	return l
}

// wantOwn asks that got has memory of its own; it spoils got.
func wantOwn(t *testing.T, what string, got api.Expr, in ...api.Expr) {
	t.Helper()
	seen := map[*api.Expr]int{}
	for _, p := range lists(got) {
		if seen[p]++; seen[p] > 1 {
			t.Errorf("%s: two lists of the answer share memory", what)
		}
	}
	var was []string
	for _, x := range in {
		was = append(was, said(x))
	}
	spoil(got)
	for i, x := range in {
		if said(x) != was[i] {
			t.Errorf("%s: the answer shares memory with argument %d", what, i)
		}
	}
}

// P9.1

func TestSizeAndDeep(t *testing.T) {
	a, b := field("a", "x"), num(1)
	for i, c := range []struct {
		x          api.Expr
		size, deep int
	}{
		{api.Expr{}, 1, 1},
		{api.Expr{K: api.XAnd, L: []api.Expr{}}, 1, 1},
		{a, 1, 1},
		{b, 1, 1},
		{not(a), 2, 2},
		{op(api.XLt, op(api.XAdd, a, b), a), 5, 3},
		{op(api.XLt, a, op(api.XAdd, a, b)), 5, 3},
		{op(api.XAnd, a, not(not(b)), a), 6, 4},
		{op(api.XAnd, not(not(a)), not(b), a), 7, 4},
		{op(api.XOr, a, not(b), not(not(a))), 7, 4},
		{op(api.XAnd, not(a), not(b)), 5, 3},
		{op(api.XAnd, some(99)...), 100, 2},
		{op(api.XAnd, some(100)...), 101, 2},
		{op(api.XOr, some(1<<20)...), 1<<20 + 1, 2},
		{chain(100, a), 100, 100},
		{chain(101, a), 101, 101},
		{chain(5000, op(api.XAnd, a, b)), 5002, 5001},
		{stairs(49, 0), 99, 50},
		{stairs(50, 1), 101, 51},
		{api.Expr{K: api.XConst, V: yes, L: []api.Expr{a, {L: []api.Expr{{}, {}}}}}, 5, 3},
		{api.Expr{K: api.XField, L: []api.Expr{{}}}, 2, 2},
		{api.Expr{K: -7, L: []api.Expr{{}, {}, {}}}, 4, 2},
	} {
		if s, d := expr.Size(c.x), expr.Deep(c.x); s != c.size || d != c.deep {
			t.Errorf("%d: %d nodes, %d down, want %d, %d", i, s, d, c.size, c.deep)
		}
	}
	for _, x := range corpus() {
		was := said(x)
		if s, d := expr.Size(x), expr.Deep(x); s != sizeOf(x) || d != deepOf(x) {
			t.Errorf("%s: %d nodes, %d down, want %d, %d", short(x), s, d, sizeOf(x), deepOf(x))
		}
		if said(x) != was {
			t.Errorf("%s is changed", short(x))
		}
	}
}

func TestCheckLetsBe(t *testing.T) {
	for i, x := range rights() {
		wantCheck(t, fmt.Sprint("right ", i), x, api.OK)
		if expr.Size(x) > api.MaxExpr-10 {
			continue
		}
		for j, y := range around(x) {
			wantCheck(t, fmt.Sprintf("right %d in %d", i, j), y, api.OK)
		}
	}
	wantCheck(t, "the example", op(api.XLt, op(api.XAdd, field("a", "x"), num(1)), field("b", "x")), api.OK)
	for _, x := range leaves() {
		x.L = []api.Expr{}
		wantCheck(t, "an empty list of parts", x, api.OK)
	}
}

func TestCheckRefuses(t *testing.T) {
	for name, x := range notRight() {
		wantCheck(t, name, x, api.ErrArg)
		if expr.Size(x) > api.MaxExpr-10 {
			continue
		}
		for i, y := range around(x) {
			wantCheck(t, fmt.Sprint(name, " in ", i), y, api.ErrArg)
		}
		wantCheck(t, name+" deep below", chain(api.MaxExpr-expr.Size(x)+1, x), api.ErrArg)
	}
}

func TestCheckKinds(t *testing.T) {
	for k := -5; k <= allKinds+5; k++ {
		for n := range 6 {
			want := api.ErrArg
			if slices.Contains(one, k) && n == 1 || slices.Contains(two, k) && n == 2 || slices.Contains(more, k) && n >= 2 || k == api.XConst && n == 0 {
				want = api.OK
			}
			wantCheck(t, fmt.Sprintf("kind %d of %d parts", k, n), op(k, some(n)...), want)
		}
		for in := -5; in <= allKinds+5; in++ {
			for _, l := range [][]api.Expr{nil, {num(1)}, {num(1), num(2)}, {num(1), num(2), num(3)}} {
				for _, x := range []api.Expr{op(k, op(in, l...)), op(k, op(in, l...), num(5)), op(k, num(5), op(in, l...)), op(k, num(5), num(6), op(in, l...))} {
					wantCheck(t, "kinds in one another", x, checked(x))
				}
			}
		}
	}
}

func TestCheckOfMany(t *testing.T) {
	a, bad := field("a", "x"), api.Expr{}
	for _, k := range more {
		wantCheck(t, "just as many in a row", op(k, some(api.MaxExpr-1)...), api.OK)
		wantCheck(t, "one more in a row", op(k, some(api.MaxExpr)...), api.ErrLong)
		wantCheck(t, "just as many, the last not right", op(k, append(some(api.MaxExpr-2), bad)...), api.ErrArg)
		wantCheck(t, "just as many, the first not right", op(k, append([]api.Expr{bad}, some(api.MaxExpr-2)...)...), api.ErrArg)
		wantCheck(t, "one more, the last not right", op(k, append(some(api.MaxExpr-1), bad)...), api.ErrLong)
		wantCheck(t, "one more, the first not right", op(k, append([]api.Expr{bad}, some(api.MaxExpr-1)...)...), api.ErrLong)
		wantCheck(t, "one more, none of them right", op(k, make([]api.Expr, api.MaxExpr)...), api.ErrLong)
		wantCheck(t, "very many", op(k, some(1<<18)...), api.ErrLong)
		wantCheck(t, "very many of its own kind", op(k, slices.Repeat([]api.Expr{op(k, a, a)}, 1<<12)...), api.ErrLong)
	}
	wantCheck(t, "just as many below one another", chain(api.MaxExpr, a), api.OK)
	wantCheck(t, "one more below one another", chain(api.MaxExpr+1, a), api.ErrLong)
	wantCheck(t, "just as many, the lowest not right", chain(api.MaxExpr, bad), api.ErrArg)
	wantCheck(t, "one more, the lowest not right", chain(api.MaxExpr+1, bad), api.ErrLong)
	wantCheck(t, "one more, the lowest right, the one above it not", chain(api.MaxExpr, op(0, a)), api.ErrLong)
	wantCheck(t, "very many below one another", chain(1<<16, a), api.ErrLong)
	for at := range 2 {
		wantCheck(t, "nearly as many in stairs", stairs(49, at), api.OK)
		wantCheck(t, "just as many in stairs", not(stairs(49, at)), api.OK)
		wantCheck(t, "one more in stairs", stairs(50, at), api.ErrLong)
	}
	for _, k := range []int{-1, 0, api.XConst, api.XField, api.XNeg, api.XAdd, api.XGe, api.XNot, allKinds + 1} {
		wantCheck(t, "as many parts of a kind that has not so many", op(k, some(api.MaxExpr-1)...), api.ErrArg)
		wantCheck(t, "one more part of a kind that has not so many", op(k, some(api.MaxExpr)...), api.ErrLong)
	}
	half := op(api.XOr, some(48)...)
	wantCheck(t, "just as many in two rows", op(api.XAnd, half, half, a), api.OK)
	wantCheck(t, "one more in two rows", op(api.XAnd, half, half, a, a), api.ErrLong)
	for name, x := range notRight() {
		wantCheck(t, name+" and too many behind it", op(api.XEq, x, op(api.XOr, some(api.MaxExpr)...)), api.ErrLong)
		wantCheck(t, name+" behind too many", op(api.XEq, op(api.XOr, some(api.MaxExpr)...), x), api.ErrLong)
		x.L = append(slices.Clone(x.L), some(api.MaxExpr)...)
		wantCheck(t, name+" with too many of its own", x, api.ErrLong)
	}
}

func TestCheckAsTheWordsSay(t *testing.T) {
	for _, x := range corpus() {
		wantCheck(t, "one of many", x, checked(x))
	}
	r := rand.New(rand.NewSource(91))
	for i := range 20000 {
		x := tame(r, 1+i%6, 0)
		wantCheck(t, "one at random", x, checked(x))
		y := changed(r, x)
		wantCheck(t, "one that is changed", y, checked(y))
		z := wild(r, 1+i%3)
		wantCheck(t, "one that may be anything", z, checked(z))
	}
}

// twins differ in just one thing each, the first being the less.
func twins() map[string][2]api.Expr {
	a, b := field("a", "x"), num(7)
	return map[string][2]api.Expr{
		"K":                           {op(api.XAdd, a, b), op(api.XSub, a, b)},
		"K, far off":                  {op(api.XNeg, a), op(api.XNot, a)},
		"K of none":                   {op(math.MinInt), op(math.MaxInt)},
		"V's K":                       {fixed(api.Value{K: api.VBool, N: 1}), fixed(api.Value{K: api.VInt, N: 1})},
		"V's K, null and empty":       {fixed(null), fixed(text(""))},
		"V's N":                       {num(-1), num(1)},
		"V's N, the ends":             {num(math.MinInt64), num(math.MaxInt64)},
		"V's S":                       {fixed(text("a")), fixed(text("b"))},
		"V's S, longer":               {fixed(text("a")), fixed(text("a\x00"))},
		"V's S, by bytes":             {fixed(text("z")), fixed(text("é"))},
		"Var":                         {field("a", "x"), field("b", "x")},
		"Var, longer":                 {field("a", "x"), field("aa", "x")},
		"Var, by bytes":               {field("B", "x"), field("a", "x")},
		"Field":                       {field("a", "x"), field("a", "y")},
		"Field, longer":               {field("a", ""), field("a", "x")},
		"Field, by bytes":             {field("a", "\x7f"), field("a", "\x80")},
		"how many":                    {op(api.XAnd, a, b), op(api.XAnd, a, b, a)},
		"how many, none":              {op(api.XAnd), op(api.XAnd, b)},
		"how many, though parts less": {op(api.XAnd, a, a), op(api.XAnd, b, b, b)},
		"the first part":              {op(api.XAnd, b, a, a), op(api.XAnd, a, a, a)},
		"the middle part":             {op(api.XAnd, a, b, a), op(api.XAnd, a, a, a)},
		"the last part":               {op(api.XAnd, a, a, b), op(api.XAnd, a, a, a)},
		"parts' order":                {op(api.XEq, b, a), op(api.XEq, a, b)},
		"what a kind does not have":   {api.Expr{K: api.XNot, Var: "a", L: []api.Expr{a}}, api.Expr{K: api.XNot, Var: "b", L: []api.Expr{a}}},
		"V of a kind without it":      {api.Expr{K: api.XField, V: no, Var: "a", Field: "x"}, api.Expr{K: api.XField, V: yes, Var: "a", Field: "x"}},
		"parts of a kind without":     {fixed(yes), api.Expr{K: api.XConst, V: yes, L: []api.Expr{{}}}},
	}
}

func wantOrder(t *testing.T, what string, a, b api.Expr, want int) {
	t.Helper()
	was := said(a) + said(b)
	if c := expr.Order(a, b); c != want {
		t.Errorf("%s: Order(%s, %s) = %d, want %d", what, short(a), short(b), c, want)
	}
	if c := expr.Order(b, a); c != -want {
		t.Errorf("%s: Order(%s, %s) = %d, want %d", what, short(b), short(a), c, -want)
	}
	if expr.Same(a, b) != (want == 0) || expr.Same(b, a) != (want == 0) {
		t.Errorf("%s: Same(%s, %s) = %v", what, short(a), short(b), want != 0)
	}
	if said(a)+said(b) != was {
		t.Errorf("%s: changed", what)
	}
}

func TestSame(t *testing.T) {
	for _, x := range corpus() {
		if !expr.Same(x, x) || !expr.Same(x, copied(x)) {
			t.Errorf("%s is not the same", short(x))
		}
	}
	for name, p := range twins() {
		if expr.Same(p[0], p[1]) || expr.Same(p[1], p[0]) {
			t.Errorf("%s: the same", name)
		}
		for i, x := range around(p[0]) {
			y := around(copied(p[1]))
			if len(around(p[0])) == len(y) && expr.Same(x, y[i]) {
				t.Errorf("%s in %d: the same", name, i)
			}
		}
		if x, y := chain(1000, p[0]), chain(1000, p[1]); expr.Same(x, y) || !expr.Same(x, chain(1000, p[0])) {
			t.Errorf("%s deep below: the same", name)
		}
	}
	none := api.Expr{K: api.XAnd, L: []api.Expr{}}
	if !expr.Same(none, api.Expr{K: api.XAnd}) || !expr.Same(not(none), not(api.Expr{K: api.XAnd})) {
		t.Error("no list and an empty one differ")
	}
	if expr.Same(api.Expr{}, fixed(null)) || expr.Same(op(api.XAnd, none), none) || expr.Same(not(none), none) {
		t.Error("another node is the same")
	}
}

// P9.2

func TestOrderOfTwins(t *testing.T) {
	for name, p := range twins() {
		wantOrder(t, name, p[0], p[1], -1)
		wantOrder(t, name, p[0], copied(p[0]), 0)
		x, y := around(p[0]), around(p[1])
		if len(x) != len(y) {
			continue
		}
		for i := range x {
			wantOrder(t, fmt.Sprint(name, " in ", i), x[i], y[i], -1)
		}
	}
}

// TestOrderOfOrders sets what counts first against all that counts behind it.
func TestOrderOfOrders(t *testing.T) {
	steps := []func(x *api.Expr, by int){
		func(x *api.Expr, by int) { x.K = 5 + by },
		func(x *api.Expr, by int) { x.V.K = 5 + by },
		func(x *api.Expr, by int) { x.V.N = int64(by) },
		func(x *api.Expr, by int) { x.V.S = []string{"b", "ba"}[by] },
		func(x *api.Expr, by int) { x.Var = []string{"b", "ba"}[by] },
		func(x *api.Expr, by int) { x.Field = []string{"b", "ba"}[by] },
		func(x *api.Expr, by int) { x.L = make([]api.Expr, 3+by) },
		func(x *api.Expr, by int) { x.L[0] = op(3, make([]api.Expr, by)...) },
		func(x *api.Expr, by int) { x.L[1] = field("a", []string{"x", "y"}[by]) },
		func(x *api.Expr, by int) { x.L[2] = num(int64(by)) },
	}
	for first := range steps {
		var x, y api.Expr
		for i, set := range steps {
			switch {
			case i < first:
				set(&x, 0)
				set(&y, 0)
			case i == first:
				set(&x, 0)
				set(&y, 1)
			default:
				set(&x, 1)
				set(&y, 0)
			}
		}
		wantOrder(t, fmt.Sprint("step ", first), x, y, -1)
		wantOrder(t, fmt.Sprint("step ", first, " deep below"), op(api.XEq, num(1), not(x)), op(api.XEq, num(1), not(y)), -1)
	}
}

func TestOrderOfRow(t *testing.T) {
	a, b := field("a", "x"), field("b", "x")
	row := []api.Expr{
		{K: math.MinInt}, {K: -1}, {}, {L: []api.Expr{{}}}, {Var: "a"}, {V: yes},
		fixed(null), fixed(no), fixed(yes), num(math.MinInt64), num(-1), num(0), num(1), num(math.MaxInt64), fixed(text("")), fixed(text("a")), fixed(text("ab")), fixed(text("b")), {K: api.XConst, V: api.Value{K: 9}},
		field("", ""), field("", "x"), field("a", ""), a, field("a", "xx"), field("a", "y"), field("aa", "x"), b,
		op(api.XNeg), op(api.XNeg, a), op(api.XNeg, b), op(api.XNeg, op(api.XNeg, a)), op(api.XNeg, api.Expr{}, api.Expr{}),
		op(api.XAdd, a, a), op(api.XAdd, a, b), op(api.XAdd, b, a), op(api.XAdd, op(api.XAdd, a, a), a), op(api.XGe, a, a), not(a), not(b), not(not(a)),
		op(api.XAnd), op(api.XAnd, b), op(api.XAnd, a, a), op(api.XAnd, a, b), op(api.XAnd, b, a), op(api.XAnd, a, a, a), op(api.XAnd, a, a, b), op(api.XAnd, not(a), a, a),
		op(api.XOr), op(api.XOr, a, b), {K: allKinds + 1}, {K: math.MaxInt},
	}
	for i, x := range row {
		for j, y := range row {
			want := -1
			switch {
			case i == j:
				want = 0
			case i > j:
				want = 1
			}
			if got := expr.Order(x, y); got != want {
				t.Errorf("Order of %d, %d: %d, want %d", i, j, got, want)
			}
		}
	}
}

func TestOrderAsTheWordsSay(t *testing.T) {
	all := corpus()
	for i, x := range all {
		for _, y := range all[max(i-3, 0):min(i+40, len(all))] {
			wantOrder(t, "two of many", x, y, ordered(x, y))
		}
	}
	r := rand.New(rand.NewSource(92))
	for i := range 20000 {
		x := wild(r, 1+i%4)
		y, z := wild(r, 3), changed(r, x)
		wantOrder(t, "two at random", x, y, ordered(x, y))
		wantOrder(t, "two that differ in one thing", x, z, ordered(x, z))
	}
}

func wantVars(t *testing.T, what string, x api.Expr, want ...string) {
	t.Helper()
	was := said(x)
	got := expr.Vars(x)
	if !slices.Equal(got, want) {
		t.Errorf("Vars of %s, %s: %q, want %q", what, short(x), got, want)
	}
	for i := range got {
		got[i] = "spoilt"
	}
	if !slices.Equal(expr.Vars(x), want) || said(x) != was {
		t.Errorf("Vars of %s: changed", what)
	}
}

func TestVars(t *testing.T) {
	a, b, c := field("a", "x"), field("b", "x"), field("c", "y")
	wantVars(t, "the zero one", api.Expr{})
	wantVars(t, "a constant", fixed(text("a")))
	wantVars(t, "constants alone", op(api.XAnd, num(1), not(num(2))))
	wantVars(t, "a field", a, "a")
	wantVars(t, "the example", op(api.XLt, op(api.XAdd, a, num(1)), b), "a", "b")
	wantVars(t, "not in order", op(api.XAnd, c, a, b), "a", "b", "c")
	wantVars(t, "more than once", op(api.XAnd, b, a, b, not(a), b, a), "a", "b")
	wantVars(t, "once with each field", op(api.XAnd, field("a", "y"), field("a", "x"), field("a", "a")), "a")
	wantVars(t, "a Field that is no Var", op(api.XEq, field("b", "a"), field("b", "c")), "b")
	wantVars(t, "by bytes", op(api.XAnd, field("z", "x"), field("ab", "x"), field("a1", "x"), field("a_", "x"), field("a", "x"), field("aa", "x")), "a", "a1", "a_", "aa", "ab", "z")
	wantVars(t, "no names", op(api.XAnd, field("é", "x"), field("z", "x"), field("Z", "x"), field("", "x"), field("\xff", "")), "", "Z", "z", "é", "\xff")
	wantVars(t, "Vars of no field", api.Expr{K: api.XAnd, Var: "q", L: []api.Expr{{K: api.XConst, Var: "r"}, {Var: "s"}, a, {K: api.XNot, Var: "t", Field: "u"}}}, "a")
	wantVars(t, "below a field", api.Expr{K: api.XField, Var: "b", L: []api.Expr{a, not(c)}}, "a", "b", "c")
	wantVars(t, "below a constant", api.Expr{K: api.XConst, V: yes, L: []api.Expr{c}}, "c")
	wantVars(t, "deep below", chain(5000, c), "c")
	for _, x := range corpus() {
		wantVars(t, "one of many", x, varsOf(x)...)
	}
	var l []api.Expr
	for i := range 3000 {
		l = append(l, field(fmt.Sprintf("v%d", (i*7)%1000), "x"))
	}
	wantVars(t, "many of them", op(api.XAnd, l...), varsOf(op(api.XAnd, l...))...)
}

func wantRenamed(t *testing.T, what string, x api.Expr, from, to []string, want api.Expr) {
	t.Helper()
	was := said(x)
	f, o := slices.Clone(from), slices.Clone(to)
	got := expr.Rename(x, from, to)
	wantExpr(t, fmt.Sprintf("Rename of %s, %s from %.40q to %.40q", what, short(x), from, to), got, want)
	if said(x) != was || !slices.Equal(from, f) || !slices.Equal(to, o) {
		t.Errorf("Rename of %s changed what came in", what)
	}
	wantOwn(t, "Rename of "+what, got, x, want)
}

func TestRename(t *testing.T) {
	a, b, c := field("a", "x"), field("b", "x"), field("c", "y")
	x := op(api.XAnd, a, op(api.XLt, b, op(api.XAdd, a, num(1))), not(c))
	as := func(p, q, r string) api.Expr {
		return op(api.XAnd, field(p, "x"), op(api.XLt, field(q, "x"), op(api.XAdd, field(p, "x"), num(1))), not(field(r, "y")))
	}
	for i, y := range []struct {
		from, to []string
		want     api.Expr
	}{
		{nil, nil, x},
		{[]string{}, []string{}, x},
		{nil, []string{"z"}, x},
		{[]string{"a"}, nil, x},
		{[]string{"a"}, []string{"z"}, as("z", "b", "c")},
		{[]string{"b"}, []string{"z"}, as("a", "z", "c")},
		{[]string{"c"}, []string{"z"}, as("a", "b", "z")},
		{[]string{"d"}, []string{"z"}, x},
		{[]string{"x"}, []string{"z"}, x},
		{[]string{"a", "b"}, []string{"b", "a"}, as("b", "a", "c")},
		{[]string{"a", "b", "c"}, []string{"b", "c", "a"}, as("b", "c", "a")},
		{[]string{"a", "b", "c"}, []string{"z", "z", "z"}, as("z", "z", "z")},
		{[]string{"a", "b", "c"}, []string{"z"}, as("z", "b", "c")},
		{[]string{"a", "b", "c"}, []string{"y", "z"}, as("y", "z", "c")},
		{[]string{"a", "a"}, []string{"y", "z"}, as("y", "b", "c")},
		{[]string{"a", "b", "a"}, []string{"y", "z"}, as("y", "z", "c")},
		{[]string{"b", "a", "a", "b"}, []string{"y", "z", "p", "q"}, as("z", "y", "c")},
		{[]string{"d", "a", "d", "a"}, []string{"d"}, x},
		{[]string{"a"}, []string{"y", "z", "q"}, as("y", "b", "c")},
		{[]string{"a"}, []string{"a"}, x},
		{[]string{"a"}, []string{"b"}, as("b", "b", "c")},
		{[]string{"a"}, []string{""}, as("", "b", "c")},
		{[]string{""}, []string{"z"}, x},
		{[]string{"a", "b"}, []string{"No name", most + "n"}, as("No name", most+"n", "c")},
	} {
		wantRenamed(t, fmt.Sprint("row ", i), x, y.from, y.to, y.want)
	}
	z := []string{"z"}
	wantRenamed(t, "the zero one", api.Expr{}, []string{""}, z, api.Expr{})
	wantRenamed(t, "no Var", field("", "x"), []string{""}, z, field("z", "x"))
	wantRenamed(t, "a Field of that name", field("b", "a"), []string{"a"}, z, field("b", "a"))
	wantRenamed(t, "a text of that name", fixed(text("a")), []string{"a"}, z, fixed(text("a")))
	for k := -1; k <= allKinds+1; k++ {
		if k != api.XField {
			q := api.Expr{K: k, V: yes, Var: "a", Field: "a", L: []api.Expr{a, {K: k, Var: "a"}}}
			wantRenamed(t, "a Var of no field", q, []string{"a"}, z, api.Expr{K: k, V: yes, Var: "a", Field: "a", L: []api.Expr{field("z", "x"), {K: k, Var: "a"}}})
		}
	}
	odd := api.Expr{K: api.XField, V: yes, Var: "a", Field: "x", L: []api.Expr{a, b}}
	wantRenamed(t, "below a field", odd, []string{"a"}, z, api.Expr{K: api.XField, V: yes, Var: "z", Field: "x", L: []api.Expr{field("z", "x"), b}})
	wantRenamed(t, "deep below", chain(3000, a), []string{"a"}, z, chain(3000, field("z", "x")))
	wantRenamed(t, "one list twice", op(api.XOr, x, x, not(x)), []string{"a"}, z, op(api.XOr, as("z", "b", "c"), as("z", "b", "c"), not(as("z", "b", "c"))))
}

func TestRenameAsTheWordsSay(t *testing.T) {
	r := rand.New(rand.NewSource(93))
	for i, x := range corpus() {
		for range 5 {
			var from, to []string
			for range r.Intn(6) {
				from = append(from, pick(r, names))
			}
			for range r.Intn(6) {
				to = append(to, pick(r, names))
			}
			wantRenamed(t, fmt.Sprint("condition ", i), x, from, to, renamed(x, from, to))
		}
	}
}

// P9.3

func wantJoin(t *testing.T, what string, want api.Expr, k int, l ...api.Expr) {
	t.Helper()
	want = copied(want)
	var was []string
	for _, x := range l {
		was = append(was, said(x))
	}
	got := expr.Join(k, l...)
	wantExpr(t, fmt.Sprintf("Join of %d, %s", k, what), got, want)
	for i, x := range l {
		if said(x) != was[i] {
			t.Errorf("Join of %d, %s changed part %d", k, what, i)
		}
	}
	wantOwn(t, "Join of "+what, got, l...)
}

func TestJoin(t *testing.T) {
	a, b, c, d := field("a", "x"), field("b", "x"), num(7), not(field("d", "y"))
	constant := map[int]api.Expr{api.XAnd: fixed(yes), api.XOr: fixed(no)}
	for _, k := range more {
		o := api.XAnd + api.XOr - k
		wantJoin(t, "none", constant[k], k)
		wantJoin(t, "an empty list", constant[k], k, []api.Expr{}...)
		for i, x := range rights() {
			wantJoin(t, fmt.Sprint("one alone, ", i), x, k, x)
		}
		wantJoin(t, "one that can't be", api.Expr{}, k, api.Expr{})
		wantJoin(t, "two", op(k, a, b), k, a, b)
		wantJoin(t, "two, in their order", op(k, b, a), k, b, a)
		wantJoin(t, "one twice", op(k, a, a), k, a, a)
		wantJoin(t, "more", op(k, d, a, c, b), k, d, a, c, b)
		wantJoin(t, "the example", op(k, a, b, c), k, a, op(k, b, c))
		wantJoin(t, "one of its kind first", op(k, a, b, c), k, op(k, a, b), c)
		wantJoin(t, "one of its kind between", op(k, d, a, b, c), k, d, op(k, a, b), c)
		wantJoin(t, "its kind alone", op(k, a, b, c), k, op(k, a, b, c))
		wantJoin(t, "its kind twice", op(k, a, b, c, d, a), k, op(k, a, b, c), op(k, d, a))
		wantJoin(t, "one list twice", op(k, d, d, d, d), k, op(k, d, d), op(k, d, d))
		wantJoin(t, "the other kind alone", op(o, a, b), k, op(o, a, b))
		wantJoin(t, "the other kind", op(k, op(o, a, b), c), k, op(o, a, b), c)
		wantJoin(t, "both kinds", op(k, op(o, a, b), c, d, a), k, op(o, a, b), op(k, c, d), a)
		wantJoin(t, "its kind within the other", op(k, op(o, op(k, a, b), c), d), k, op(o, op(k, a, b), c), d)
		wantJoin(t, "the other within its kind", op(k, op(o, a, b), c, d), k, op(k, op(o, a, b), c), d)
		wantJoin(t, "its kind below NOT", op(k, not(op(k, a, b)), c), k, not(op(k, a, b)), c)
		wantJoin(t, "constants", op(k, fixed(yes), fixed(no)), k, fixed(yes), fixed(no))
		wantJoin(t, "the constant of none", op(k, constant[k], a), k, constant[k], a)
		wantJoin(t, "very many", op(k, some(1<<12)...), k, some(1<<12)...)
		wantJoin(t, "its kind of one part", a, k, op(k, a))
		wantJoin(t, "its kind of one part, and one more", op(k, a, b), k, op(k, a), b)
		wantJoin(t, "its kind of no part", constant[k], k, op(k))
		wantJoin(t, "its kind of no part, and one", a, k, op(k), a, op(k))
		wantJoin(t, "its kind of no part, and two", op(k, a, b), k, a, op(k), b)
		wantJoin(t, "its kind of what it has not", op(k, a, b), k, api.Expr{K: k, V: yes, Var: "q", Field: "r", L: []api.Expr{a, b}})
		wantJoin(t, "its kind right below its kind", op(k, a, op(k, b, c), d), k, a, op(k, op(k, b, c), d))
		wantJoin(t, "parts that can't be", op(k, api.Expr{}, api.Expr{K: -1}), k, api.Expr{}, api.Expr{K: -1})
	}
}

func TestJoinOfOtherKinds(t *testing.T) {
	a, b := field("a", "x"), num(7)
	for _, k := range []int{-1, 0, api.XConst, api.XField, api.XNeg, api.XAdd, api.XSub, api.XMul, api.XDiv, api.XMod, api.XEq, api.XNe, api.XLt, api.XLe, api.XGt, api.XGe, api.XNot, allKinds + 1, math.MaxInt, math.MinInt, 1<<32 + 16, 1<<8 + 17} {
		for _, l := range [][]api.Expr{nil, {a}, {a, b}, {op(k, a, b), a}, {op(k, a)}, {op(api.XAnd, a, b)}, {op(api.XOr, a, b), op(api.XAnd, a, b)}, some(200)} {
			wantJoin(t, "a kind that is neither", api.Expr{}, k, l...)
		}
	}
}

func TestJoinAsTheWordsSay(t *testing.T) {
	r := rand.New(rand.NewSource(94))
	all := corpus()
	for i := range 20000 {
		k := pick(r, more)
		if i%20 == 0 {
			k = r.Intn(allKinds + 2)
		}
		var l []api.Expr
		for range r.Intn(5) {
			x := pick(r, all)
			if r.Intn(3) == 0 {
				x.K = k
			}
			l = append(l, x)
		}
		wantJoin(t, "parts at random", joined(k, l), k, l...)
	}
}

// TestJoinOfRights asks that what is made of right conditions is right, if it is not too long.
func TestJoinOfRights(t *testing.T) {
	r := rand.New(rand.NewSource(95))
	for i := range 5000 {
		k := pick(r, more)
		var l []api.Expr
		for range r.Intn(5) {
			if x := tame(r, 1+i%4, 0); expr.Check(x) == api.OK {
				l = append(l, x)
			}
		}
		x := expr.Join(k, l...)
		want := api.OK
		if sizeOf(x) > api.MaxExpr {
			want = api.ErrLong
		}
		wantCheck(t, "what is joined", x, want)
		wantExpr(t, "joined again", expr.Join(k, x), x)
	}
}

// P9.4

func TestOrderIsNoneJustForTheSame(t *testing.T) {
	all := corpus()
	var told []string
	for _, x := range all {
		told = append(told, said(x))
	}
	for i, x := range all {
		for j, y := range all {
			if is := told[i] == told[j]; (expr.Order(x, y) == 0) != is || expr.Same(x, y) != is {
				t.Fatalf("Order of %s and %s: %d, and the same: %v", short(x), short(y), expr.Order(x, y), is)
			}
		}
	}
	r := rand.New(rand.NewSource(96))
	for i := range 20000 {
		x := wild(r, 1+i%5)
		y := changed(r, x)
		if c := expr.Order(x, y); c == 0 || c != -expr.Order(y, x) || expr.Same(x, y) {
			t.Fatalf("%s and %s: %d", short(x), short(y), c)
		}
		if expr.Order(x, copied(x)) != 0 || !expr.Same(x, copied(x)) {
			t.Fatalf("%s is not the same as itself", short(x))
		}
	}
}

func TestOrderGoesOn(t *testing.T) {
	r := rand.New(rand.NewSource(97))
	for range 20000 {
		x := wild(r, 2)
		y := changed(r, x)
		z := changed(r, y)
		if expr.Order(x, y) <= 0 && expr.Order(y, z) <= 0 && expr.Order(x, z) > 0 || expr.Order(x, y) >= 0 && expr.Order(y, z) >= 0 && expr.Order(x, z) < 0 {
			t.Fatalf("%s, %s, %s: no order", short(x), short(y), short(z))
		}
	}
}

func TestRenamedAndBack(t *testing.T) {
	for _, x := range corpus() {
		from := varsOf(x)
		var to []string
		for i := range from {
			to = append(to, fmt.Sprintf("new%d", i))
		}
		y := expr.Rename(x, from, to)
		if !slices.Equal(expr.Vars(y), varsOf(y)) || len(expr.Vars(y)) != len(from) {
			t.Errorf("%s renamed has Vars %q", short(x), expr.Vars(y))
		}
		if z := expr.Rename(y, to, from); !expr.Same(z, x) || expr.Order(z, x) != 0 || said(z) != said(x) {
			t.Errorf("%s is %s when it is renamed and back", short(x), short(z))
		}
		slices.Reverse(to)
		if z := expr.Rename(expr.Rename(x, from, to), to, from); !expr.Same(z, x) {
			t.Errorf("%s is %s when it is renamed and back, from the end", short(x), short(z))
		}
		turned := append(slices.Clone(from[min(1, len(from)):]), from[:min(1, len(from))]...)
		if z := expr.Rename(expr.Rename(x, from, turned), turned, from); !expr.Same(z, x) {
			t.Errorf("%s is %s when its Vars are turned round and back", short(x), short(z))
		}
	}
}

// P1: calls end, and none panics.

func TestNestedAsDeepAsMayBe(t *testing.T) {
	const n = 1 << 16
	a := field("a", "x")
	x := chain(n, a)
	if expr.Size(x) != n || expr.Deep(x) != n || expr.Check(x) != api.ErrLong {
		t.Error("Size, Deep or Check of what is deep")
	}
	wantVars(t, "what is deep", x, "a")
	if y := chain(n, field("b", "x")); expr.Order(x, y) != -1 || expr.Order(y, x) != 1 || expr.Same(x, y) || !expr.Same(x, x) {
		t.Error("Order of what is deep")
	}
	if y := expr.Rename(x, []string{"a"}, []string{"b"}); !expr.Same(y, chain(n, field("b", "x"))) {
		t.Error("Rename of what is deep")
	}
	if y := expr.Join(api.XAnd, x, x); !expr.Same(y, op(api.XAnd, x, x)) {
		t.Error("Join of what is deep")
	}
	z := stairs(n-1, 1)
	if expr.Size(z) != 2*n-1 || expr.Deep(z) != n || !expr.Same(expr.Join(api.XOr, z), z) {
		t.Error("stairs")
	}
}

func TestManyNames(t *testing.T) {
	const n = 1 << 16
	var from, to []string
	var l []api.Expr
	for i := range n {
		from, to = append(from, fmt.Sprint("a", i)), append(to, fmt.Sprint("b", i))
		l = append(l, field(from[i], "x"))
	}
	x := op(api.XAnd, l...)
	y := expr.Rename(x, from, to)
	for i := range n {
		if y.L[i].Var != to[i] || x.L[i].Var != from[i] {
			t.Fatalf("part %d is of %s", i, y.L[i].Var)
		}
	}
	if !expr.Same(expr.Rename(y, to, from), x) || len(expr.Vars(y)) != n {
		t.Error("not the same when renamed back")
	}
}

func FuzzExpr(f *testing.F) {
	for i := range int64(8) {
		f.Add(i, i+1, "a", "b")
	}
	f.Fuzz(func(t *testing.T, s1, s2 int64, a, b string) {
		r := rand.New(rand.NewSource(s1))
		x, y := wild(r, 4), tame(r, 4, 0)
		y = op(api.XAnd, y, field(a, b), field(b, a))
		r = rand.New(rand.NewSource(s2))
		z := changed(r, pick(r, []api.Expr{x, y}))
		for _, p := range []api.Expr{x, y, z} {
			wantCheck(t, "fuzz", p, checked(p))
			if expr.Size(p) != sizeOf(p) || expr.Deep(p) != deepOf(p) {
				t.Errorf("Size or Deep of %s", short(p))
			}
			wantVars(t, "fuzz", p, varsOf(p)...)
			from, to := []string{a, pick(r, names), b, a}, []string{b, pick(r, names), a}
			wantRenamed(t, "fuzz", p, from, to, renamed(p, from, to))
			for _, q := range []api.Expr{x, y, z} {
				wantOrder(t, "fuzz", p, q, ordered(p, q))
			}
		}
		for _, k := range []int{api.XAnd, api.XOr, r.Intn(20)} {
			wantJoin(t, "fuzz", joined(k, []api.Expr{x, y, z}), k, x, y, z)
		}
	})
}
