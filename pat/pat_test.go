package pat_test

import (
	"fmt"
	"maps"
	"math"
	"math/rand"
	"slices"
	"strings"
	"testing"

	"haruspex/api"
	"haruspex/pat"
)

const allKinds = api.PNot

var (
	most  = strings.Repeat("n", api.MaxName)
	rows  = []int{api.PSeq, api.PAnd, api.POr}
	ones  = []int{api.PAtom, api.PMany, api.PNot}
	names = []string{"", "a", "b", "ab", "a1_", "A", "0", "_", "é", most, most + "n", "b\x00"}
)

func atom(v, t string) api.Pat { return api.Pat{K: api.PAtom, Var: v, Type: t} }

func not(v, t string) api.Pat { return api.Pat{K: api.PNot, Var: v, Type: t} }

func many(v, t string, lo, hi int) api.Pat {
	return api.Pat{K: api.PMany, Var: v, Type: t, Lo: lo, Hi: hi}
}

func row(k int, l ...api.Pat) api.Pat { return api.Pat{K: k, L: l} }

func seq(l ...api.Pat) api.Pat { return row(api.PSeq, l...) }

func and(l ...api.Pat) api.Pat { return row(api.PAnd, l...) }

func or(l ...api.Pat) api.Pat { return row(api.POr, l...) }

// some has n atoms with Vars of their own.
func some(n int) []api.Pat {
	l := make([]api.Pat, n)
	for i := range l {
		l[i] = atom(fmt.Sprint("s", i), "t")
	}
	return l
}

// stairs goes n nodes down to leaf, by turns of kind k and kind o: each has one atom more, ahead of the next one down or behind it. It has 2(n-1) nodes and the leaf's.
func stairs(n, k, o, at int, leaf api.Pat) api.Pat {
	for i := range n - 1 {
		l := []api.Pat{atom(fmt.Sprint("d", i), "t"), atom(fmt.Sprint("d", i), "t")}
		l[at] = leaf
		if (n-i)%2 == 0 {
			leaf = row(k, l...)
		} else {
			leaf = row(o, l...)
		}
	}
	return leaf
}

// chain goes n nodes down to leaf, each the only part of the one above: it is not right, if n is above 1.
func chain(n int, leaf api.Pat) api.Pat {
	for i := range n - 1 {
		leaf = row(rows[i%3], leaf)
	}
	return leaf
}

// others has each two rows' kinds that differ.
func others() [][2]int {
	var l [][2]int
	for _, k := range rows {
		for _, o := range rows {
			if k != o {
				l = append(l, [2]int{k, o})
			}
		}
	}
	return l
}

// leaves are right patterns without parts.
func leaves() []api.Pat {
	var l []api.Pat
	for _, s := range []string{"a", "b", "a1_", "z_9", most} {
		l = append(l, atom(s, "buy"), atom("v", s), atom(s, s), not(s, "buy"), not("v", s), many(s, "buy", 1, 0), many("v", s, 2, 2))
	}
	for _, c := range [][2]int{{1, 0}, {1, 2}, {1, 3}, {1, api.MaxMany}, {2, 0}, {2, 2}, {2, 3}, {2, api.MaxMany}, {7, 9}, {api.MaxMany - 1, 0}, {api.MaxMany - 1, api.MaxMany - 1}, {api.MaxMany - 1, api.MaxMany}, {api.MaxMany, 0}, {api.MaxMany, api.MaxMany}} {
		l = append(l, many("a", "buy", c[0], c[1]))
	}
	return l
}

// rights has right patterns of each kind; not all are well made.
func rights() []api.Pat {
	a, b, c, n, m := atom("a", "buy"), atom("b", "sell"), atom("c", "buy"), not("n", "sell"), many("m", "buy", 1, 0)
	all := leaves()
	for _, k := range rows {
		all = append(all, row(k, a, b), row(k, a, a), row(k, a, b, c), row(k, n, n), row(k, n, a), row(k, a, n), row(k, a, n, b), row(k, m, n, m), row(k, some(api.MaxNodes-1)...))
	}
	for _, p := range others() {
		k, o := p[0], p[1]
		all = append(all, row(k, row(o, a, b), c), row(k, c, row(o, a, b)), row(k, row(o, a, b), row(o, c, m)), row(k, a, row(o, b, row(k, c, m))), row(k, a, row(o, b, row(k, c, row(o, m, n)))))
		all = append(all, stairs(api.MaxDeep, k, o, 0, a), stairs(api.MaxDeep, k, o, 1, m))
	}
	return all
}

// notRight has patterns of which just the node itself is not right; all its parts are.
func notRight() map[string]api.Pat {
	a, b := atom("a", "buy"), many("b", "sell", 2, 3)
	all := map[string]api.Pat{
		"zero": {}, "zero kind with names": {Var: "a", Type: "buy"}, "zero kind with counts": {Var: "a", Type: "buy", Lo: 1, Hi: 2}, "zero kind with parts": row(0, a, b),
	}
	for _, k := range []int{-1, -2, allKinds + 1, allKinds + 2, math.MaxInt, math.MinInt, 1<<8 + 1, 1<<8 + 2, 1<<32 + 1, 1<<32 + 4} {
		for n := range 4 {
			all[fmt.Sprintf("kind %d of %d parts", k, n)] = row(k, some(n)...)
		}
		all[fmt.Sprintf("kind %d with names", k)] = api.Pat{K: k, Var: "a", Type: "buy"}
		all[fmt.Sprintf("kind %d with counts", k)] = api.Pat{K: k, Var: "a", Type: "buy", Lo: 1, Hi: 2}
	}
	for _, s := range []string{"", "A", "aB", "1", "_", "_a", "a b", "a.", "é", "a\x00", "a\xff", most + "n"} {
		for _, k := range ones {
			lo := 0
			if k == api.PMany {
				lo = 1
			}
			all[fmt.Sprintf("kind %d, Var %q", k, s)] = api.Pat{K: k, Var: s, Type: "buy", Lo: lo}
			all[fmt.Sprintf("kind %d, Type %q", k, s)] = api.Pat{K: k, Var: "a", Type: s, Lo: lo}
			all[fmt.Sprintf("kind %d, both %q", k, s)] = api.Pat{K: k, Var: s, Type: s, Lo: lo}
		}
	}
	for _, c := range [][2]int{{0, 0}, {0, 1}, {0, 2}, {0, api.MaxMany}, {-1, 0}, {-1, -1}, {-1, 2}, {-2, -1}, {1, 1}, {1, -1}, {2, -1}, {2, 1}, {3, 2}, {3, 1}, {api.MaxMany, api.MaxMany - 1}, {api.MaxMany, 1}, {1, api.MaxMany + 1}, {2, api.MaxMany + 1}, {api.MaxMany, api.MaxMany + 1}, {api.MaxMany + 1, 0}, {api.MaxMany + 1, api.MaxMany}, {api.MaxMany + 1, api.MaxMany + 1}, {api.MaxMany + 1, api.MaxMany + 2}, {1, math.MaxInt}, {1, math.MinInt}, {math.MaxInt, 0}, {math.MaxInt, math.MaxInt}, {math.MinInt, 0}, {math.MinInt, math.MinInt}, {math.MinInt, math.MaxInt}, {1<<32 + 1, 0}, {1, 1 << 32}} {
		all[fmt.Sprintf("counts %d and %d", c[0], c[1])] = many("a", "buy", c[0], c[1])
	}
	for _, k := range rows {
		in := row(k, atom("p", "buy"), atom("q", "buy"))
		all[fmt.Sprint(k, " of none")] = row(k)
		all[fmt.Sprint(k, " of an empty list")] = api.Pat{K: k, L: []api.Pat{}}
		all[fmt.Sprint(k, " of one")] = row(k, a)
		all[fmt.Sprint(k, " of one of its kind")] = row(k, in)
		all[fmt.Sprint(k, " with its kind first")] = row(k, in, a)
		all[fmt.Sprint(k, " with its kind last")] = row(k, a, in)
		all[fmt.Sprint(k, " with its kind between")] = row(k, a, in, b)
		all[fmt.Sprint(k, " with its kind alone")] = row(k, in, in)
		all[fmt.Sprint(k, " with its kind behind many")] = row(k, append(some(50), in)...)
	}
	maps.Copy(all, unlike())
	return all
}

// unlike has, for each kind, each field that it does not have, not zero; all else is right.
func unlike() map[string]api.Pat {
	all := map[string]api.Pat{}
	for k := 1; k <= allKinds; k++ {
		p := row(k, atom("p", "buy"), atom("q", "sell"))
		if slices.Contains(ones, k) {
			p = atom("a", "buy")
			p.K = k
		}
		if k == api.PMany {
			p.Lo = 1
		}
		set := func(what string, change func(*api.Pat)) {
			x := copied(p)
			change(&x)
			all[fmt.Sprintf("kind %d with %s", k, what)] = x
		}
		if slices.Contains(rows, k) {
			for _, s := range []string{"a", "A", "\x00", most + "n"} {
				set(fmt.Sprintf("Var %q", s), func(x *api.Pat) { x.Var = s })
				set(fmt.Sprintf("Type %q", s), func(x *api.Pat) { x.Type = s })
				set(fmt.Sprintf("both %q", s), func(x *api.Pat) { x.Var, x.Type = s, s })
			}
		} else {
			for n := 1; n <= 3; n++ {
				set(fmt.Sprintf("%d parts", n), func(x *api.Pat) { x.L = some(n) })
			}
		}
		if k != api.PMany {
			for _, n := range []int{1, 2, -1, api.MaxMany, math.MaxInt, math.MinInt} {
				set(fmt.Sprint("Lo ", n), func(x *api.Pat) { x.Lo = n })
				set(fmt.Sprint("Hi ", n), func(x *api.Pat) { x.Hi = n })
				set(fmt.Sprint("Lo and Hi ", n), func(x *api.Pat) { x.Lo, x.Hi = n, n })
			}
		}
	}
	return all
}

// around sets p at each place of right patterns, up to some way down. None has a Var, but p's, twice.
func around(p api.Pat) []api.Pat {
	u, v, w, x := atom("u", "t"), atom("w", "t"), many("x", "t", 1, 0), atom("y", "t")
	var l []api.Pat
	for _, k := range rows {
		if p.K == k {
			continue
		}
		l = append(l, row(k, p, u), row(k, u, p), row(k, u, p, v), row(k, u, v, p))
		for _, o := range rows {
			if o != k {
				l = append(l, row(o, u, row(k, v, p)), row(o, row(k, p, v), u), row(k, u, row(o, v, row(k, w, p))), row(o, row(k, row(o, row(k, p, x), w), v), u))
			}
		}
	}
	return l
}

func copied(p api.Pat) api.Pat {
	if p.L != nil {
		l := make([]api.Pat, len(p.L))
		for i, x := range p.L {
			l[i] = copied(x)
		}
		p.L = l
	}
	return p
}

// said tells all fields of all nodes, so two are the same if this is.
func said(p api.Pat) string {
	var b strings.Builder
	var tell func(p api.Pat)
	tell = func(p api.Pat) {
		fmt.Fprintf(&b, "(%d %q %q %d %d %d", p.K, p.Var, p.Type, p.Lo, p.Hi, len(p.L))
		for _, x := range p.L {
			tell(x)
		}
		b.WriteByte(')')
	}
	tell(p)
	return b.String()
}

func short(p api.Pat) string { return fmt.Sprintf("%.300s", said(p)) }

// Models of the chapter's words, by other means.

// stand is a node and the way down to it.
type stand struct {
	way []int
	p   api.Pat
}

// stands has all nodes, the whole first, then its parts, then theirs.
func stands(p api.Pat) []stand {
	all := []stand{{nil, p}}
	for i := 0; i < len(all); i++ {
		for j, x := range all[i].p.L {
			all = append(all, stand{append(slices.Clone(all[i].way), j), x})
		}
	}
	return all
}

func sizeOf(p api.Pat) int {
	n := 1
	for _, x := range p.L {
		n += sizeOf(x)
	}
	return n
}

func deepOf(p api.Pat) int {
	n := 0
	for _, x := range p.L {
		n = max(n, deepOf(x))
	}
	return n + 1
}

func isName(s string) bool {
	for i, c := range []byte(s) {
		if !('a' <= c && c <= 'z' || i > 0 && ('0' <= c && c <= '9' || c == '_')) {
			return false
		}
	}
	return 1 <= len(s) && len(s) <= 32
}

func isRight(p api.Pat) bool {
	for _, x := range p.L {
		if !isRight(x) || p.K == x.K {
			return false
		}
	}
	switch {
	case p.K == 2 || p.K == 3 || p.K == 4:
		return len(p.L) > 1 && said(p) == said(api.Pat{K: p.K, L: p.L})
	case p.K == 5 && p.Hi == 0:
		return isName(p.Var) && isName(p.Type) && 0 < p.Lo && p.Lo < 1001 && len(p.L) == 0
	case p.K == 5:
		return isName(p.Var) && isName(p.Type) && 0 < p.Lo && p.Lo <= p.Hi && 1 < p.Hi && p.Hi < 1001 && len(p.L) == 0
	}
	return (p.K == 1 || p.K == 6) && isName(p.Var) && isName(p.Type) && said(p) == said(api.Pat{K: p.K, Var: p.Var, Type: p.Type})
}

func checked(p api.Pat) api.Errno {
	if sizeOf(p) > 64 || deepOf(p) > 8 {
		return 2
	}
	if !isRight(p) {
		return 1
	}
	return 0
}

func hasVar(p api.Pat) bool { return p.K == 1 || p.K == 5 || p.K == 6 }

// mayNot tells whether a PNot at that way of p, which is right, stands where one may.
func mayNot(kinds map[string]int, way []int) bool {
	if len(way) == 0 {
		return false
	}
	up, i := way[:len(way)-1], way[len(way)-1]
	beside := func(i int) int { return kinds[fmt.Sprint(append(slices.Clone(up), i))] }
	if kinds[fmt.Sprint(up)] != 2 || beside(i-1) == 0 || beside(i-1) == 6 {
		return false
	}
	return beside(i+1) != 0 || len(up) == 0
}

// mayBoth tells whether these two nodes of one Var may stand in one pattern: where their ways part, a POr stands.
func mayBoth(kinds map[string]int, a, b stand) bool {
	n := 0
	for n < len(a.way) && n < len(b.way) && a.way[n] == b.way[n] {
		n++
	}
	return kinds[fmt.Sprint(a.way[:n])] == 4 && a.p.Type == b.p.Type && (a.p.K == 6) == (b.p.K == 6)
}

func made(p api.Pat) api.Errno {
	if e := checked(p); e != 0 {
		return e
	}
	all := stands(p)
	kinds := map[string]int{}
	for _, x := range all {
		kinds[fmt.Sprint(x.way)] = x.p.K
	}
	for i, x := range all {
		if x.p.K == 6 && !mayNot(kinds, x.way) {
			return 4
		}
		for _, y := range all[:i] {
			if hasVar(x.p) && hasVar(y.p) && x.p.Var == y.p.Var && !mayBoth(kinds, x, y) {
				return 4
			}
		}
	}
	return 0
}

// varsOf sorts all nodes by their ways: that is the order in which they stand.
func varsOf(p api.Pat) (vars, types []string, kinds []int) {
	all := stands(p)
	slices.SortFunc(all, func(a, b stand) int { return slices.Compare(a.way, b.way) })
	for _, x := range all {
		if hasVar(x.p) && !slices.Contains(vars, x.p.Var) {
			vars, types, kinds = append(vars, x.p.Var), append(types, x.p.Type), append(kinds, x.p.K)
		}
	}
	return
}

func renamed(p api.Pat, from, to []string) api.Pat {
	p = copied(p)
	for i := range p.L {
		p.L[i] = renamed(p.L[i], from, to)
	}
	if i := slices.Index(from, p.Var); hasVar(p) && 0 <= i && i < len(to) {
		p.Var = to[i]
	}
	return p
}

// Trees at random.

func pick[T any](r *rand.Rand, l []T) T { return l[r.Intn(len(l))] }

// wild may be anything: most of these are not right.
func wild(r *rand.Rand, deep int) api.Pat {
	p := api.Pat{K: r.Intn(allKinds+3) - 1}
	if r.Intn(2) == 0 {
		p.Var, p.Type = pick(r, names), pick(r, names)
	}
	if r.Intn(3) == 0 {
		p.Lo = r.Intn(5) - 1
	}
	if r.Intn(3) == 0 {
		p.Hi = r.Intn(5) - 1
	}
	if deep > 1 {
		for range r.Intn(4) {
			p.L = append(p.L, wild(r, deep-1))
		}
	}
	if len(p.L) == 0 && r.Intn(2) == 0 {
		p.L = []api.Pat{}
	}
	return p
}

// leaf is right; the fewer vars, the more often one stands again.
func leaf(r *rand.Rand, vars int) api.Pat {
	v := fmt.Sprint("v", r.Intn(vars))
	t := "buy"
	if r.Intn(40) == 0 {
		t = "sell"
	}
	if r.Intn(4) == 0 {
		lo := 2 + r.Intn(3)
		return many(v, t, lo, pick(r, []int{0, lo, lo + 1, api.MaxMany}))
	}
	return atom(v, t)
}

// tame is right, if it is not too long; often, but not always, it is well made.
func tame(r *rand.Rand, deep, vars, but int) api.Pat {
	if deep <= 1 || r.Intn(3) == 0 {
		return leaf(r, vars)
	}
	k := pick(r, rows)
	for k == but {
		k = pick(r, rows)
	}
	p := api.Pat{K: k}
	for i := range 2 + r.Intn(3) {
		p.L = append(p.L, tame(r, deep-1, vars, k))
		if k == api.PSeq && r.Intn(5) == 0 || r.Intn(60) == 0 {
			p.L = append(p.L, not(fmt.Sprint("n", r.Intn(vars)), "buy"))
		}
		if i == 0 && r.Intn(60) == 0 {
			slices.Reverse(p.L)
		}
	}
	return p
}

// changed differs from p in one field of one node, or in one part more or less.
func changed(r *rand.Rand, p api.Pat) api.Pat {
	p = copied(p)
	x := &p
	for len(x.L) > 0 && r.Intn(4) != 0 {
		x = &x.L[r.Intn(len(x.L))]
	}
	switch r.Intn(6) {
	case 0:
		x.K++
	case 1:
		x.Var += "a"
	case 2:
		x.Type += "a"
	case 3:
		x.Lo++
	case 4:
		x.Hi++
	default:
		if len(x.L) == 0 || r.Intn(2) == 0 {
			x.L = append(x.L, atom("a", "buy"))
		} else {
			x.L = x.L[:len(x.L)-1]
		}
	}
	return p
}

// corpus has patterns of all sorts, each in the same order at each call.
func corpus() []api.Pat {
	r := rand.New(rand.NewSource(12))
	all := rights()
	no := notRight()
	for _, what := range slices.Sorted(maps.Keys(no)) {
		all = append(all, no[what], seq(atom("z", "t"), no[what]))
	}
	for i := range 300 {
		all = append(all, wild(r, 1+i%5), tame(r, 1+i%5, 1+i%9, 0))
	}
	return all
}

func wantCheck(t *testing.T, what string, p api.Pat, want api.Errno) {
	t.Helper()
	was := said(p)
	if got := pat.Check(p); got != want {
		t.Errorf("Check of %s, %s: %d, want %d", what, short(p), got, want)
	}
	if want != api.OK && pat.Made(p) != want {
		t.Errorf("Made of %s, %s: %d, want %d", what, short(p), pat.Made(p), want)
	}
	if said(p) != was {
		t.Errorf("Check or Made of %s changed it", what)
	}
}

// wantMade asks of a right pattern.
func wantMade(t *testing.T, what string, p api.Pat, want api.Errno) {
	t.Helper()
	wantCheck(t, what, p, api.OK)
	was := said(p)
	if got := pat.Made(p); got != want {
		t.Errorf("Made of %s, %s: %d, want %d", what, short(p), got, want)
	}
	if said(p) != was {
		t.Errorf("Made of %s changed it", what)
	}
}

func wantPat(t *testing.T, what string, got, want api.Pat) {
	t.Helper()
	if said(got) != said(want) {
		t.Errorf("%s: %s, want %s", what, short(got), short(want))
	}
}

// spoil changes all that an answer's lists hold; what shares memory with it shows that.
func spoil(p api.Pat) {
	for i := range p.L {
		spoil(p.L[i])
		p.L[i] = api.Pat{K: 99, Var: "spoilt"}
	}
	clear(p.L[len(p.L):cap(p.L)])
}

// lists has the first elements of all lists of p: no two may be one.
func lists(p api.Pat) []*api.Pat {
	var l []*api.Pat
	if len(p.L) > 0 {
		l = append(l, &p.L[0])
	}
	for _, x := range p.L {
		l = append(l, lists(x)...)
	}
	return l
}

// wantOwn asks that got has memory of its own; it spoils got.
func wantOwn(t *testing.T, what string, got api.Pat, in ...api.Pat) {
	t.Helper()
	seen := map[*api.Pat]int{}
	for _, x := range lists(got) {
		if seen[x]++; seen[x] > 1 {
			t.Errorf("%s: two lists of the answer share memory", what)
		}
	}
	var was []string
	for _, x := range in {
		was = append(was, said(x))
	}
	spoil(got)
	for i, x := range in {
		if said(x) != was[i] {
			t.Errorf("%s: the answer shares memory with argument %d", what, i)
		}
	}
}

// roomy has p's nodes in lists with room behind them, in which other nodes lie.
func roomy(p api.Pat) api.Pat {
	l := make([]api.Pat, len(p.L), len(p.L)+2)
	for i, x := range p.L {
		l[i] = roomy(x)
	}
	copy(l[len(l):cap(l)], []api.Pat{{K: 77, Var: "room"}, {K: 78, Var: "room"}})
	p.L = l
	return p
}

func roomIsLeft(p api.Pat) bool {
	for _, x := range p.L {
		if !roomIsLeft(x) {
			return false
		}
	}
	room := p.L[len(p.L):cap(p.L)]
	return len(room) == 2 && said(room[0]) == said(api.Pat{K: 77, Var: "room"}) && said(room[1]) == said(api.Pat{K: 78, Var: "room"})
}

// P12.1

func TestSizeAndDeep(t *testing.T) {
	a, b, m := atom("a", "buy"), not("b", "buy"), many("m", "buy", 2, 1000)
	for i, c := range []struct {
		p          api.Pat
		size, deep int
	}{
		{api.Pat{}, 1, 1},
		{api.Pat{K: api.PAnd, L: []api.Pat{}}, 1, 1},
		{a, 1, 1},
		{b, 1, 1},
		{m, 1, 1},
		{seq(a), 2, 2},
		{seq(a, b), 3, 2},
		{and(a, b, m), 4, 2},
		{or(seq(a, b), m), 5, 3},
		{or(m, seq(a, b)), 5, 3},
		{or(seq(a, b), and(a, b)), 7, 3},
		{seq(a, or(b, and(a, m)), m), 8, 4},
		{seq(or(and(a, m), b), or(a, a), m), 10, 4},
		{or(some(63)...), 64, 2},
		{or(some(64)...), 65, 2},
		{or(some(1 << 20)...), 1<<20 + 1, 2},
		{stairs(8, api.PSeq, api.POr, 0, a), 15, 8},
		{stairs(9, api.PSeq, api.POr, 1, a), 17, 9},
		{chain(5000, and(a, b)), 5002, 5001},
		{api.Pat{K: api.PAtom, Var: "a", L: []api.Pat{a, {L: []api.Pat{{}, {}}}}}, 5, 3},
		{api.Pat{K: api.PNot, L: []api.Pat{{}}}, 2, 2},
		{api.Pat{K: -7, L: []api.Pat{{}, {}, {}}}, 4, 2},
	} {
		if s, d := pat.Size(c.p), pat.Deep(c.p); s != c.size || d != c.deep {
			t.Errorf("%d: %d nodes, %d down, want %d, %d", i, s, d, c.size, c.deep)
		}
	}
	for _, p := range corpus() {
		was := said(p)
		if s, d := pat.Size(p), pat.Deep(p); s != sizeOf(p) || d != deepOf(p) {
			t.Errorf("%s: %d nodes, %d down, want %d, %d", short(p), s, d, sizeOf(p), deepOf(p))
		}
		if said(p) != was {
			t.Errorf("%s is changed", short(p))
		}
	}
}

func TestCheckLetsBe(t *testing.T) {
	for i, p := range rights() {
		wantCheck(t, fmt.Sprint("right ", i), p, api.OK)
		if sizeOf(p) > api.MaxNodes-10 || deepOf(p) > api.MaxDeep-4 {
			continue
		}
		for j, x := range around(p) {
			wantCheck(t, fmt.Sprintf("right %d in %d", i, j), x, api.OK)
		}
	}
	for _, p := range leaves() {
		p.L = []api.Pat{}
		wantCheck(t, "an empty list of parts", p, api.OK)
	}
}

func TestCheckRefuses(t *testing.T) {
	for what, p := range notRight() {
		wantCheck(t, what, p, api.ErrArg)
		if sizeOf(p) > api.MaxNodes-10 {
			continue
		}
		for i, x := range around(p) {
			wantCheck(t, fmt.Sprint(what, " in ", i), x, api.ErrArg)
		}
		wantCheck(t, what+" deep below", stairs(api.MaxDeep-deepOf(p)+1, api.PAnd, api.POr, 1, p), api.ErrArg)
		wantCheck(t, what+" ahead of as many as may be", or(append([]api.Pat{p}, some(api.MaxNodes-1-sizeOf(p))...)...), api.ErrArg)
	}
}

func TestCheckKinds(t *testing.T) {
	for k := -5; k <= allKinds+5; k++ {
		for n := range 6 {
			want := api.ErrArg
			if slices.Contains(rows, k) && n >= 2 {
				want = api.OK
			}
			wantCheck(t, fmt.Sprintf("kind %d of %d parts", k, n), row(k, some(n)...), want)
		}
		for in := -5; in <= allKinds+5; in++ {
			for n := range 4 {
				x := row(in, some(n)...)
				for _, p := range []api.Pat{row(k, x), row(k, x, atom("z", "t")), row(k, atom("z", "t"), x), row(k, x, x), row(k, atom("y", "t"), atom("z", "t"), x)} {
					wantCheck(t, "kinds in one another", p, checked(p))
				}
			}
		}
	}
}

// TestCheckSameKind sets a kind right below itself, and two below.
func TestCheckSameKind(t *testing.T) {
	a, b, c, d := atom("a", "buy"), atom("b", "buy"), atom("c", "buy"), atom("d", "buy")
	for _, k := range rows {
		wantMade(t, "one row", row(k, a, b, c, d), api.OK)
		wantCheck(t, "its kind first", row(k, row(k, a, b), c), api.ErrArg)
		wantCheck(t, "its kind last", row(k, a, row(k, b, c)), api.ErrArg)
		for _, o := range rows {
			if o != k {
				wantMade(t, "another kind below", row(k, a, row(o, b, c)), api.OK)
				wantMade(t, "its kind two below", row(k, a, row(o, b, row(k, c, d))), api.OK)
				wantMade(t, "its kind two below, first", row(k, row(o, row(k, c, d), b), a), api.OK)
				wantCheck(t, "its kind right below, two below", row(o, a, row(k, b, row(k, c, d))), api.ErrArg)
			}
		}
	}
}

func TestCheckCounts(t *testing.T) {
	for _, lo := range []int{math.MinInt, -1001, -2, -1, 0, 1, 2, 3, 999, 1000, 1001, 1002, math.MaxInt} {
		for _, hi := range []int{math.MinInt, -1001, -2, -1, 0, 1, 2, 3, 999, 1000, 1001, 1002, math.MaxInt} {
			want := api.ErrArg
			if 1 <= lo && lo <= 1000 && (hi == 0 || lo <= hi && hi <= 1000) && (lo != 1 || hi != 1) {
				want = api.OK
			}
			wantCheck(t, fmt.Sprintf("%d to %d", lo, hi), many("a", "buy", lo, hi), want)
			wantCheck(t, fmt.Sprintf("%d to %d, in a row", lo, hi), seq(atom("z", "t"), many("a", "buy", lo, hi)), want)
			for k := 0; k <= allKinds; k++ {
				if k == api.PMany {
					continue
				}
				x := api.Pat{K: k, Var: "a", Type: "buy", Lo: lo, Hi: hi}
				if slices.Contains(rows, k) {
					x = api.Pat{K: k, Lo: lo, Hi: hi, L: some(2)}
				}
				wantCheck(t, "counts of another kind", x, checked(x))
			}
		}
	}
}

func TestCheckOfMany(t *testing.T) {
	bad := api.Pat{}
	for _, k := range rows {
		wantMade(t, "just as many in a row", row(k, some(api.MaxNodes-1)...), api.OK)
		wantCheck(t, "one more in a row", row(k, some(api.MaxNodes)...), api.ErrLong)
		wantCheck(t, "just as many, the last not right", row(k, append(some(api.MaxNodes-2), bad)...), api.ErrArg)
		wantCheck(t, "just as many, the first not right", row(k, append([]api.Pat{bad}, some(api.MaxNodes-2)...)...), api.ErrArg)
		wantCheck(t, "one more, the last not right", row(k, append(some(api.MaxNodes-1), bad)...), api.ErrLong)
		wantCheck(t, "one more, the first not right", row(k, append([]api.Pat{bad}, some(api.MaxNodes-1)...)...), api.ErrLong)
		wantCheck(t, "one more, none of them right", row(k, make([]api.Pat, api.MaxNodes)...), api.ErrLong)
		wantCheck(t, "one more, of one Var", row(k, slices.Repeat(some(1), api.MaxNodes)...), api.ErrLong)
		wantCheck(t, "very many", row(k, some(1<<18)...), api.ErrLong)
		wantCheck(t, "very many of its own kind", row(k, slices.Repeat([]api.Pat{row(k, some(2)...)}, 1<<12)...), api.ErrLong)
	}
	for _, k := range []int{-1, 0, api.PAtom, api.PMany, api.PNot, allKinds + 1} {
		wantCheck(t, "as many parts of a kind that has none", row(k, some(api.MaxNodes-1)...), api.ErrArg)
		wantCheck(t, "one more part of a kind that has none", row(k, some(api.MaxNodes)...), api.ErrLong)
	}
	for _, p := range others() {
		l := some(62)
		wantMade(t, "just as many in three rows", row(p[0], row(p[1], l[:20]...), row(p[1], l[20:40]...), row(p[1], l[40:60]...)), api.OK)
		wantCheck(t, "one more in three rows", row(p[0], row(p[1], l[:20]...), row(p[1], l[20:40]...), row(p[1], l[40:61]...)), api.ErrLong)
		wantCheck(t, "one more behind three rows", row(p[0], row(p[1], l[:20]...), row(p[1], l[20:40]...), row(p[1], l[40:60]...), l[61]), api.ErrLong)
	}
	for what, p := range notRight() {
		wantCheck(t, what+" and too many behind it", and(p, or(some(api.MaxNodes)...)), api.ErrLong)
		wantCheck(t, what+" behind too many", and(or(some(api.MaxNodes)...), p), api.ErrLong)
		p.L = append(slices.Clone(p.L), some(api.MaxNodes)...)
		wantCheck(t, what+" with too many of its own", p, api.ErrLong)
	}
}

func TestCheckOfDeep(t *testing.T) {
	a, bad := atom("a", "buy"), api.Pat{}
	for _, p := range others() {
		for at := range 2 {
			wantMade(t, "just as deep", stairs(api.MaxDeep, p[0], p[1], at, a), api.OK)
			wantMade(t, "just as deep, and just as many", stairs(api.MaxDeep-1, p[0], p[1], at, row(p[0]+p[1]-kindAbove(p), some(api.MaxNodes-2*api.MaxDeep+3)...)), api.OK)
			wantCheck(t, "one deeper", stairs(api.MaxDeep+1, p[0], p[1], at, a), api.ErrLong)
			wantCheck(t, "just as deep, the lowest not right", stairs(api.MaxDeep, p[0], p[1], at, bad), api.ErrArg)
			wantCheck(t, "one deeper, the lowest not right", stairs(api.MaxDeep+1, p[0], p[1], at, bad), api.ErrLong)
			wantCheck(t, "one deeper, of kinds that can't be", stairs(api.MaxDeep+1, 0, 9, at, a), api.ErrLong)
			wantCheck(t, "one deeper and very many", stairs(api.MaxDeep+1, p[0], p[1], at, row(0, some(1<<10)...)), api.ErrLong)
			wantCheck(t, "very deep", stairs(1<<10, p[0], p[1], at, a), api.ErrLong)
			deep := stairs(api.MaxDeep, p[0], p[1], at, a)
			wantCheck(t, "one deeper behind what is not right", row(p[1], bad, deep), api.ErrLong)
			wantCheck(t, "one deeper ahead of what is not right", row(p[1], deep, bad), api.ErrLong)
			wantCheck(t, "one deeper behind one that is just as deep", row(p[1], stairs(api.MaxDeep-1, p[0], p[1], at, atom("b", "t")), deep), api.ErrLong)
		}
	}
	wantCheck(t, "just as deep, not right", chain(api.MaxDeep, a), api.ErrArg)
	wantCheck(t, "one deeper, not right", chain(api.MaxDeep+1, a), api.ErrLong)
	wantCheck(t, "just as many and just as deep, not right", chain(api.MaxDeep-1, or(some(api.MaxNodes-api.MaxDeep+1)...)), api.ErrArg)
	wantCheck(t, "one more and just as deep, not right", chain(api.MaxDeep-1, or(some(api.MaxNodes-api.MaxDeep+2)...)), api.ErrLong)
	wantCheck(t, "just as many and one deeper, not right", chain(api.MaxDeep, or(some(api.MaxNodes-api.MaxDeep)...)), api.ErrLong)
	wantCheck(t, "one more and one deeper, not right", chain(api.MaxDeep, or(some(api.MaxNodes-api.MaxDeep+1)...)), api.ErrLong)
	wantCheck(t, "one more and one deeper", stairs(api.MaxDeep+1, api.PSeq, api.POr, 0, or(some(api.MaxNodes)...)), api.ErrLong)
	for what, p := range notRight() {
		wantCheck(t, what+" too deep", stairs(api.MaxDeep-deepOf(p)+2, api.PSeq, api.POr, 0, p), api.ErrLong)
		wantCheck(t, what+" too deep, below one another", chain(api.MaxDeep-deepOf(p)+2, p), api.ErrLong)
	}
}

// kindAbove is the kind of the lowest row of stairs that are MaxDeep - 1 deep: the leaf may not be of it.
func kindAbove(p [2]int) int {
	x := stairs(api.MaxDeep-1, p[0], p[1], 1, api.Pat{})
	for len(x.L[1].L) > 0 {
		x = x.L[1]
	}
	return x.K
}

func TestCheckAsTheWordsSay(t *testing.T) {
	for _, p := range corpus() {
		wantCheck(t, "one of many", p, checked(p))
	}
	r := rand.New(rand.NewSource(121))
	got := map[api.Errno]int{}
	for i := range 8000 {
		p := tame(r, 1+i%9, 1+i%30, 0)
		x := changed(r, p)
		for _, y := range []api.Pat{p, x, wild(r, 1+i%3)} {
			got[checked(y)]++
			wantCheck(t, "one at random", y, checked(y))
		}
	}
	if got[0] < 1000 || got[1] < 1000 || got[2] < 500 {
		t.Errorf("too few of one sort: %v", got)
	}
}

// twins differ in just one thing each.
func twins() map[string][2]api.Pat {
	a, b, c := atom("a", "buy"), atom("b", "buy"), atom("c", "buy")
	return map[string][2]api.Pat{
		"K":                         {atom("a", "buy"), not("a", "buy")},
		"K of rows":                 {seq(a, b), and(a, b)},
		"K of none":                 {{K: math.MinInt}, {K: math.MaxInt}},
		"K and zero":                {{}, {K: 1}},
		"Var":                       {atom("a", "buy"), atom("b", "buy")},
		"Var, longer":               {atom("a", "buy"), atom("aa", "buy")},
		"Var, none":                 {atom("", "buy"), atom("a", "buy")},
		"Var, by bytes":             {atom("a", "buy"), atom("A", "buy")},
		"Type":                      {atom("a", "buy"), atom("a", "sell")},
		"Type, longer":              {not("a", "buy"), not("a", "buy\x00")},
		"Var and Type":              {atom("a", "b"), atom("b", "a")},
		"Var's end":                 {atom("ab", "c"), atom("a", "bc")},
		"Lo":                        {many("a", "buy", 2, 0), many("a", "buy", 3, 0)},
		"Lo below 0":                {many("a", "buy", -2, 0), many("a", "buy", 2, 0)},
		"Hi":                        {many("a", "buy", 2, 0), many("a", "buy", 2, 2)},
		"Hi, the ends":              {many("a", "buy", 2, math.MinInt), many("a", "buy", 2, math.MaxInt)},
		"Lo and Hi":                 {many("a", "buy", 2, 3), many("a", "buy", 3, 2)},
		"how many":                  {seq(a, b), seq(a, b, c)},
		"how many, none":            {or(), or(a)},
		"the first part":            {seq(a, c, c), seq(b, c, c)},
		"the middle part":           {seq(c, a, c), seq(c, b, c)},
		"the last part":             {seq(c, c, a), seq(c, c, b)},
		"parts' order":              {and(a, b), and(b, a)},
		"parts' order in or":        {or(a, seq(b, c)), or(seq(b, c), a)},
		"where parts are":           {seq(a, or(b, c)), seq(or(a, b), c)},
		"Var of a row":              {{K: api.PSeq, Var: "a", L: []api.Pat{a, b}}, seq(a, b)},
		"Type of a row":             {{K: api.PSeq, Type: "a", L: []api.Pat{a, b}}, seq(a, b)},
		"Lo of an atom":             {{K: api.PAtom, Lo: 1}, {K: api.PAtom}},
		"Hi of a PNot":              {{K: api.PNot, Hi: 1}, {K: api.PNot}},
		"parts of an atom":          {{K: api.PAtom, Var: "a", Type: "buy", L: []api.Pat{{}}}, a},
		"what only more nodes have": {seq(seq(a, b), c), seq(a, b, c)},
	}
}

func wantSame(t *testing.T, what string, a, b api.Pat, want bool) {
	t.Helper()
	was := said(a) + said(b)
	if pat.Same(a, b) != want || pat.Same(b, a) != want {
		t.Errorf("%s: Same(%s, %s) is %v, and turned %v, want %v", what, short(a), short(b), pat.Same(a, b), pat.Same(b, a), want)
	}
	if said(a)+said(b) != was {
		t.Errorf("%s: Same changed them", what)
	}
}

func TestSame(t *testing.T) {
	all := corpus()
	var told []string
	for _, p := range all {
		wantSame(t, "itself", p, p, true)
		wantSame(t, "a copy", p, roomy(p), true)
		told = append(told, said(p))
	}
	for i, p := range all {
		for j, x := range all {
			if pat.Same(p, x) != (told[i] == told[j]) {
				t.Fatalf("Same(%s, %s) is %v", short(p), short(x), pat.Same(p, x))
			}
		}
	}
	for what, p := range twins() {
		wantSame(t, what, p[0], p[1], false)
		wantSame(t, what+", below", or(atom("z", "t"), seq(p[0], atom("y", "t"))), or(atom("z", "t"), seq(p[1], atom("y", "t"))), false)
		wantSame(t, what+", twice but once", and(p[0], p[0]), and(p[0], p[1]), false)
		wantSame(t, what+", deep below", chain(1000, p[0]), chain(1000, p[1]), false)
		wantSame(t, what+", deep below, the same", chain(1000, p[0]), chain(1000, copied(p[0])), true)
	}
	wantSame(t, "no list and an empty one", api.Pat{K: api.PSeq, L: []api.Pat{}}, api.Pat{K: api.PSeq}, true)
	wantSame(t, "no list and an empty one, below", or(api.Pat{K: api.PSeq, L: []api.Pat{}}), or(api.Pat{K: api.PSeq}), true)
	r := rand.New(rand.NewSource(122))
	for i := range 20000 {
		p := wild(r, 1+i%5)
		wantSame(t, "one thing changed", p, changed(r, p), false)
		wantSame(t, "a copy", p, copied(p), true)
	}
}

func TestMadeExample(t *testing.T) {
	a, b, c := atom("a", "buy"), not("b", "buy"), atom("c", "buy")
	wantMade(t, "a, not b, c", seq(a, b, c), api.OK)
	wantMade(t, "not b, c", seq(b, c), api.ErrForm)
	wantMade(t, "not b, a", seq(b, a), api.ErrForm)
}

func TestMadeNots(t *testing.T) {
	a, b, c, d, n, m := atom("a", "buy"), atom("b", "buy"), many("c", "buy", 1, 0), atom("d", "buy"), not("n", "sell"), not("m", "buy")
	for what, x := range map[string]struct {
		p api.Pat
		e api.Errno
	}{
		"no PNot":                          {seq(a, b), api.OK},
		"the whole":                        {n, api.ErrForm},
		"between":                          {seq(a, n, b), api.OK},
		"between two of other kinds":       {seq(c, n, or(a, b)), api.OK},
		"of a Type that others have":       {seq(a, m, b), api.OK},
		"the first":                        {seq(n, a), api.ErrForm},
		"the first of three":               {seq(n, a, b), api.ErrForm},
		"the first, and the last":          {seq(n, a, m), api.ErrForm},
		"the last of the whole":            {seq(a, n), api.OK},
		"the last of the whole, of more":   {seq(a, b, c, n), api.OK},
		"two, one between":                 {seq(a, n, b, m, c), api.OK},
		"two, one between, the last":       {seq(a, n, b, m), api.OK},
		"behind another one":               {seq(a, n, m, b), api.ErrForm},
		"behind another one, the last":     {seq(a, n, m), api.ErrForm},
		"behind another one, further on":   {seq(a, b, n, m, c), api.ErrForm},
		"behind another one, two others":   {seq(a, n, b, m, not("k", "buy"), c), api.ErrForm},
		"nothing else":                     {seq(n, m), api.ErrForm},
		"in a PAnd, the first":             {and(n, a), api.ErrForm},
		"in a PAnd, the last":              {and(a, n), api.ErrForm},
		"in a PAnd, between":               {and(a, n, b), api.ErrForm},
		"in a POr, the first":              {or(n, a), api.ErrForm},
		"in a POr, the last":               {or(a, n), api.ErrForm},
		"in a POr, between":                {or(a, n, b), api.ErrForm},
		"in a PAnd in a PSeq":              {seq(a, and(b, n), d), api.ErrForm},
		"in a POr in a PSeq":               {seq(a, or(b, n, d), c), api.ErrForm},
		"between, in a PSeq in a PAnd":     {and(seq(a, n, b), d), api.OK},
		"between, in a PSeq in a POr":      {or(d, seq(a, n, b)), api.OK},
		"between, in a PSeq further below": {seq(d, or(c, seq(a, n, b))), api.OK},
		"first, in a PSeq in a POr":        {or(d, seq(n, a)), api.ErrForm},
		"first, further below":             {seq(d, or(c, seq(n, a))), api.ErrForm},
		"last, in a PSeq in a PAnd":        {and(seq(a, n), b), api.ErrForm},
		"last, in a PSeq in a POr":         {or(b, seq(a, n)), api.ErrForm},
		"last, in a PSeq at the end":       {seq(a, or(b, seq(d, n))), api.ErrForm},
		"last, in a PSeq at the beginning": {seq(or(b, seq(d, n)), a), api.ErrForm},
		"last, there and of the whole":     {seq(a, or(b, seq(d, m)), n), api.ErrForm},
		"last of the whole, more below":    {seq(a, or(b, seq(d, m, c)), n), api.OK},
		"behind another one, below":        {or(b, seq(a, n, m, d)), api.ErrForm},
		"behind one in the part ahead":     {seq(or(a, seq(b, n, d)), m, c), api.OK},
		"between, in several PSeqs":        {and(seq(a, n, b), seq(d, m, c)), api.OK},
	} {
		wantMade(t, what, x.p, x.e)
		if made(x.p) != x.e {
			t.Errorf("%s: the model has %d", what, made(x.p))
		}
	}
	for k := 1; k <= allKinds; k++ {
		for i := range 5 {
			l := some(5)
			l[i] = n
			p := row(k, l...)
			if !slices.Contains(rows, k) {
				continue
			}
			want := api.ErrForm
			if k == api.PSeq && i > 0 {
				want = api.OK
			}
			wantMade(t, fmt.Sprintf("at place %d of kind %d", i, k), p, want)
		}
	}
}

func TestMadeVars(t *testing.T) {
	a, b, c, d, n := atom("a", "buy"), atom("b", "buy"), atom("c", "buy"), atom("d", "buy"), not("n", "buy")
	m, other, never := many("a", "buy", 1, 0), atom("a", "sell"), not("a", "buy")
	for what, x := range map[string]struct {
		p api.Pat
		e api.Errno
	}{
		"twice in a PSeq":                   {seq(a, a), api.ErrForm},
		"twice in a PSeq, not side by side": {seq(a, b, a), api.ErrForm},
		"twice in a PAnd":                   {and(a, a), api.ErrForm},
		"twice in a PAnd of more":           {and(a, b, c, a), api.ErrForm},
		"atom and many in a PSeq":           {seq(a, m), api.ErrForm},
		"two Types in a PSeq":               {seq(a, other), api.ErrForm},
		"a PNot and not in a PSeq":          {seq(a, never, b), api.ErrForm},
		"PNots in a PSeq":                   {seq(a, n, b, n, c), api.ErrForm},
		"PNots in a PSeq, one the last":     {seq(a, n, b, n), api.ErrForm},
		"in parts of a POr":                 {or(a, a), api.OK},
		"in all parts of a POr":             {or(a, b, a, a), api.OK},
		"in parts of a POr, two Types":      {or(a, other), api.ErrForm},
		"in parts of a POr, the last":       {or(a, a, other), api.ErrForm},
		"in parts of a POr, atom and many":  {or(a, m), api.OK},
		"in parts of a POr, two manys":      {or(m, many("a", "buy", 2, 5)), api.OK},
		"many, two Types":                   {or(m, many("a", "sell", 1, 0)), api.ErrForm},
		"as a PNot and not":                 {or(a, seq(b, never, c)), api.ErrForm},
		"as a PNot first, then as a many":   {or(seq(b, never, c), m), api.ErrForm},
		"as PNots in parts of a POr":        {or(seq(a, n, b), seq(c, n, d)), api.OK},
		"as PNots in parts, two Types":      {or(seq(a, n, b), seq(c, not("n", "sell"), d)), api.ErrForm},
		"as PNots in parts of a PAnd":       {and(seq(a, n, b), seq(c, n, d)), api.ErrForm},
		"as PNots in parts and around":      {seq(or(seq(a, n, b), seq(a, n, c)), n, d), api.ErrForm},
		"in one part of a POr":              {or(seq(a, a), b), api.ErrForm},
		"in one part of a POr, a PAnd":      {or(b, and(a, c, a)), api.ErrForm},
		"in one part and another one":       {or(seq(a, a), a), api.ErrForm},
		"in PSeqs in a POr":                 {or(seq(a, b), seq(b, a)), api.OK},
		"in a PSeq and a PAnd in a POr":     {or(seq(a, b, c), and(c, b, a)), api.OK},
		"in PSeqs in a PAnd":                {and(seq(a, b), seq(c, a)), api.ErrForm},
		"in PAnds in a PSeq":                {seq(and(a, b), and(c, a)), api.ErrForm},
		"in POrs in a PSeq":                 {seq(or(a, b), or(a, c)), api.ErrForm},
		"in POrs in a PAnd":                 {and(or(a, b), or(c, a)), api.ErrForm},
		"in a POr and beside it":            {seq(or(a, b), a), api.ErrForm},
		"ahead of a POr and in it":          {seq(a, or(b, c, a)), api.ErrForm},
		"beside a POr, in PAnd":             {and(or(a, b), c, a), api.ErrForm},
		"deep below parts of a POr":         {or(seq(b, and(c, a)), seq(c, and(b, a))), api.OK},
		"deep below and right below":        {or(seq(b, and(c, or(a, d))), a), api.OK},
		"in a POr below one part":           {or(seq(b, or(a, c)), a), api.OK},
		"in a POr below, and in its PSeq":   {or(seq(a, or(a, c)), b), api.ErrForm},
		"in a POr of a POr's part, twice":   {or(seq(or(a, b), or(a, c)), d), api.ErrForm},
		"in a POr of a POr's part, both":    {or(seq(or(a, and(a, b)), c), a), api.OK},
		"deep below, two Types":             {or(seq(b, and(c, a)), seq(c, and(b, other))), api.ErrForm},
		"a POr in a PSeq, all of one Var":   {seq(b, or(a, seq(c, a), and(d, a))), api.OK},
		"Vars and Types of one name":        {seq(atom("a", "b"), atom("b", "a")), api.OK},
		"Types that are the same":           {and(a, b, c, d), api.OK},
		"PNots of one Type":                 {seq(a, n, b, not("k", "buy")), api.OK},
		"one of many":                       {or(append(some(50), atom("s7", "t"))...), api.OK},
		"one of many, of another Type":      {or(append(some(50), atom("s7", "u"))...), api.ErrForm},
		"one of many, in a PSeq":            {seq(append(some(50), atom("s7", "t"))...), api.ErrForm},
	} {
		wantMade(t, what, x.p, x.e)
		if made(x.p) != x.e {
			t.Errorf("%s: the model has %d", what, made(x.p))
		}
	}
}

// TestMadeErrors asks that what is not right, or too long, is told ahead of what is not well made.
func TestMadeErrors(t *testing.T) {
	a, n := atom("a", "buy"), not("n", "buy")
	for what, p := range notRight() {
		if sizeOf(p) < api.MaxNodes-10 {
			wantCheck(t, what+" and a Var twice", and(a, seq(p, a, a), n), api.ErrArg)
			wantCheck(t, "a Var twice and "+what, and(n, a, a, or(p, n)), api.ErrArg)
		}
	}
	wantCheck(t, "too many, and PNots", and(slices.Repeat([]api.Pat{n}, api.MaxNodes)...), api.ErrLong)
	wantCheck(t, "too deep, and a Var twice", seq(a, a, stairs(api.MaxDeep, api.POr, api.PSeq, 0, n)), api.ErrLong)
	wantMade(t, "just as many, and PNots", and(slices.Repeat([]api.Pat{n}, api.MaxNodes-1)...), api.ErrForm)
	wantMade(t, "just as many of one Var", seq(slices.Repeat([]api.Pat{a}, api.MaxNodes-1)...), api.ErrForm)
	wantMade(t, "just as many of one Var, in a POr", or(slices.Repeat([]api.Pat{a}, api.MaxNodes-1)...), api.OK)
	wantMade(t, "just as deep, a PNot at the end", stairs(api.MaxDeep, api.POr, api.PSeq, 0, n), api.ErrForm)
}

// TestMadeOfSmall goes over all patterns of few leaves.
func TestMadeOfSmall(t *testing.T) {
	few := []api.Pat{atom("a", "buy"), atom("b", "buy"), many("a", "buy", 2, 0), atom("a", "sell"), not("a", "buy"), not("n", "sell")}
	parts := slices.Clone(few)
	for _, k := range rows {
		for _, x := range few {
			for _, y := range few {
				parts = append(parts, row(k, x, y))
			}
		}
	}
	got := map[api.Errno]int{}
	ask := func(p api.Pat) {
		want := made(p)
		got[want]++
		if e := pat.Made(p); e != want {
			t.Fatalf("Made of %s: %d, want %d", short(p), e, want)
		}
	}
	for _, k := range rows {
		for _, x := range parts {
			for _, y := range parts {
				ask(row(k, x, y))
			}
			for _, y := range few {
				for _, z := range few {
					ask(row(k, x, y, z))
					ask(row(k, y, x, z))
					ask(row(k, y, z, x))
				}
			}
		}
	}
	if got[0] < 500 || got[1] < 500 || got[4] < 500 {
		t.Errorf("too few of one sort: %v", got)
	}
}

func TestMadeAsTheWordsSay(t *testing.T) {
	got := map[api.Errno]int{}
	ask := func(p api.Pat) {
		want, was := made(p), said(p)
		got[want]++
		if e := pat.Made(p); e != want || said(p) != was {
			t.Errorf("Made of %s: %d, want %d", short(p), e, want)
		}
	}
	for _, p := range corpus() {
		ask(p)
	}
	r := rand.New(rand.NewSource(123))
	for i := range 20000 {
		p := tame(r, 2+i%5, 3+i%60, 0)
		ask(p)
		ask(changed(r, p))
	}
	if got[0] < 2000 || got[1] < 1000 || got[4] < 2000 {
		t.Errorf("too few of one sort: %v", got)
	}
}

// P12.2

func wantVars(t *testing.T, what string, p api.Pat, vars, types []string, kinds []int) {
	t.Helper()
	was := said(p)
	v, y, k := pat.Vars(p)
	if !slices.Equal(v, vars) || !slices.Equal(y, types) || !slices.Equal(k, kinds) {
		t.Errorf("Vars of %s, %s: %.300q, %.300q, %.300v, want %.300q, %.300q, %.300v", what, short(p), v, y, k, vars, types, kinds)
	}
	for i := range v {
		v[i] = "spoilt"
	}
	if !slices.Equal(y, types) || !slices.Equal(k, kinds) {
		t.Errorf("Vars of %s: two lists share memory", what)
	}
	for i := range y {
		y[i], k[i] = "spoilt", 99
	}
	if v, y, k = pat.Vars(p); said(p) != was || !slices.Equal(v, vars) || !slices.Equal(y, types) || !slices.Equal(k, kinds) {
		t.Errorf("Vars of %s: changed", what)
	}
}

func TestVars(t *testing.T) {
	a, b, n, m := atom("a", "buy"), atom("b", "sell"), not("n", "tick"), many("m", "buy", 2, 3)
	type s = []string
	type i = []int
	wantVars(t, "the zero one", api.Pat{}, nil, nil, nil)
	wantVars(t, "rows of nothing", seq(and(), or(), api.Pat{K: 9}), nil, nil, nil)
	wantVars(t, "an atom", a, s{"a"}, s{"buy"}, i{api.PAtom})
	wantVars(t, "a PNot", n, s{"n"}, s{"tick"}, i{api.PNot})
	wantVars(t, "a many", m, s{"m"}, s{"buy"}, i{api.PMany})
	wantVars(t, "the order in which they stand", seq(m, n, b, a), s{"m", "n", "b", "a"}, s{"buy", "tick", "sell", "buy"}, i{api.PMany, api.PNot, api.PAtom, api.PAtom})
	wantVars(t, "rows below", seq(or(m, and(b, atom("z", "t"))), n, a), s{"m", "b", "z", "n", "a"}, s{"buy", "sell", "t", "tick", "buy"}, i{api.PMany, api.PAtom, api.PAtom, api.PNot, api.PAtom})
	wantVars(t, "deeper ones first", seq(or(and(b, m), n), a), s{"b", "m", "n", "a"}, s{"sell", "buy", "tick", "buy"}, i{api.PAtom, api.PMany, api.PNot, api.PAtom})
	wantVars(t, "again", or(a, seq(b, a), and(a, b)), s{"a", "b"}, s{"buy", "sell"}, i{api.PAtom, api.PAtom})
	wantVars(t, "again, of another Type", seq(a, atom("a", "sell"), b), s{"a", "b"}, s{"buy", "sell"}, i{api.PAtom, api.PAtom})
	wantVars(t, "again, of another Type, turned", seq(atom("a", "sell"), a), s{"a"}, s{"sell"}, i{api.PAtom})
	wantVars(t, "again, of another kind", or(many("a", "buy", 1, 0), b, a, not("a", "buy")), s{"a", "b"}, s{"buy", "sell"}, i{api.PMany, api.PAtom})
	wantVars(t, "again, first as a PNot", seq(not("a", "tick"), a, many("a", "buy", 1, 0)), s{"a"}, s{"tick"}, i{api.PNot})
	wantVars(t, "again, first further below", seq(or(and(b, not("a", "tick"))), a), s{"b", "a"}, s{"sell", "tick"}, i{api.PAtom, api.PNot})
	wantVars(t, "no names", seq(atom("", ""), not("é", "A"), atom("", "b")), s{"", "é"}, s{"", "A"}, i{api.PAtom, api.PNot})
	wantVars(t, "Vars of rows", api.Pat{K: api.PSeq, Var: "q", Type: "r", L: []api.Pat{a, {K: api.POr, Var: "a", Type: "x"}, {Var: "p", Type: "t"}, {K: 7, Var: "p", Type: "t"}, {K: -1, Var: "p"}}}, s{"a"}, s{"buy"}, i{api.PAtom})
	wantVars(t, "below an atom", api.Pat{K: api.PAtom, Var: "b", Type: "x", L: []api.Pat{a, b, seq(m)}}, s{"b", "a", "m"}, s{"x", "buy", "buy"}, i{api.PAtom, api.PAtom, api.PMany})
	wantVars(t, "deep below", chain(3000, m), s{"m"}, s{"buy"}, i{api.PMany})
	for _, p := range corpus() {
		v, y, k := varsOf(p)
		wantVars(t, "one of many", p, v, y, k)
	}
}

func wantAt(t *testing.T, what string, p api.Pat, way []int, want api.Pat, ok bool) {
	t.Helper()
	was, w := said(p), slices.Clone(way)
	x, found := pat.At(p, way)
	wantPat(t, fmt.Sprintf("At %v of %s, %s", way, what, short(p)), x, want)
	if found != ok {
		t.Errorf("At %v of %s, %s: %v", way, what, short(p), found)
	}
	if said(p) != was || !slices.Equal(way, w) {
		t.Errorf("At %v of %s changed what came in", way, what)
	}
	wantOwn(t, "At of "+what, x, p, want)
}

func TestAt(t *testing.T) {
	a, b, n := atom("a", "buy"), many("b", "sell", 1, 0), not("n", "tick")
	in := or(b, and(a, b))
	p := seq(a, n, in)
	wantAt(t, "a nil way", p, nil, copied(p), true)
	wantAt(t, "an empty way", p, []int{}, copied(p), true)
	wantAt(t, "the first", p, []int{0}, a, true)
	wantAt(t, "a PNot", p, []int{1}, n, true)
	wantAt(t, "a row", p, []int{2}, copied(in), true)
	wantAt(t, "a leaf", p, []int{2, 0}, b, true)
	wantAt(t, "a row further down", p, []int{2, 1}, and(a, b), true)
	wantAt(t, "the last leaf", p, []int{2, 1, 1}, b, true)
	wantAt(t, "a leaf alone", a, nil, a, true)
	wantAt(t, "the zero one", api.Pat{}, nil, api.Pat{}, true)
	for _, way := range [][]int{{3}, {-1}, {math.MaxInt}, {math.MinInt}, {0, 0}, {0, -1}, {1, 0}, {2, 2}, {2, -1}, {2, 0, 0}, {2, 1, 2}, {2, 1, -1}, {2, 1, 1, 0}, {2, 1, 1, 0, 0}, {3, 0}, {-1, 0}, {2, 2, 0}, {2, math.MinInt, 0}, {0, 1, 1, 1}} {
		wantAt(t, "no part", p, way, api.Pat{}, false)
	}
	for _, x := range append(leaves(), api.Pat{}, seq(), api.Pat{K: api.PAnd, L: []api.Pat{}}) {
		for _, i := range []int{0, 1, -1, math.MaxInt, math.MinInt} {
			wantAt(t, "beyond a leaf", x, []int{i}, api.Pat{}, false)
			wantAt(t, "beyond a leaf in a row", or(x, x), []int{1, i}, api.Pat{}, false)
		}
	}
	wantAt(t, "parts of an atom", api.Pat{K: api.PAtom, L: []api.Pat{{}, a}}, []int{1}, a, true)
	wantAt(t, "a zero part", api.Pat{K: 9, L: []api.Pat{{}, a}}, []int{0}, api.Pat{}, true)
	wantAt(t, "one list twice", or(in, seq(in, in)), []int{1}, seq(copied(in), copied(in)), true)
}

func TestAtAsTheWordsSay(t *testing.T) {
	for _, p := range corpus() {
		for _, x := range stands(p) {
			wantAt(t, "one of many", p, x.way, copied(x.p), true)
			wantAt(t, "one of many", p, append(slices.Clone(x.way), len(x.p.L)), api.Pat{}, false)
			wantAt(t, "one of many", p, append(slices.Clone(x.way), -1), api.Pat{}, false)
		}
	}
}

func wantRenamed(t *testing.T, what string, p api.Pat, from, to []string, want api.Pat) {
	t.Helper()
	was := said(p)
	f, o := slices.Clone(from), slices.Clone(to)
	got := pat.Rename(p, from, to)
	wantPat(t, fmt.Sprintf("Rename of %s, %s from %.40q to %.40q", what, short(p), from, to), got, want)
	if said(p) != was || !slices.Equal(from, f) || !slices.Equal(to, o) {
		t.Errorf("Rename of %s changed what came in", what)
	}
	wantOwn(t, "Rename of "+what, got, p, want)
}

func TestRename(t *testing.T) {
	as := func(p, q, r string) api.Pat {
		return seq(atom(p, "buy"), not(q, "a"), or(many(r, "b", 2, 7), and(atom("d", "c"), atom(p, "buy"))), not(r, "buy"))
	}
	p := as("a", "b", "c")
	type s = []string
	for i, x := range []struct {
		from, to s
		want     api.Pat
	}{
		{nil, nil, p},
		{s{}, s{}, p},
		{nil, s{"z"}, p},
		{s{"a"}, nil, p},
		{s{"a"}, s{}, p},
		{s{"a"}, s{"z"}, as("z", "b", "c")},
		{s{"b"}, s{"z"}, as("a", "z", "c")},
		{s{"c"}, s{"z"}, as("a", "b", "z")},
		{s{"e"}, s{"z"}, p},
		{s{"buy"}, s{"z"}, p},
		{s{"a", "b"}, s{"b", "a"}, as("b", "a", "c")},
		{s{"a", "b", "c"}, s{"b", "c", "a"}, as("b", "c", "a")},
		{s{"a", "b", "c"}, s{"z", "z", "z"}, as("z", "z", "z")},
		{s{"a", "b", "c"}, s{"z"}, as("z", "b", "c")},
		{s{"a", "b", "c"}, s{"y", "z"}, as("y", "z", "c")},
		{s{"c", "b", "a"}, s{"y", "z"}, as("a", "z", "y")},
		{s{"a", "a"}, s{"y", "z"}, as("y", "b", "c")},
		{s{"a", "b", "a"}, s{"y", "z"}, as("y", "z", "c")},
		{s{"b", "a", "a", "b"}, s{"y", "z", "p", "q"}, as("z", "y", "c")},
		{s{"e", "a", "e", "a"}, s{"e"}, p},
		{s{"a"}, s{"y", "z", "q"}, as("y", "b", "c")},
		{s{"a"}, s{"a"}, p},
		{s{"a"}, s{"b"}, as("b", "b", "c")},
		{s{"a"}, s{""}, as("", "b", "c")},
		{s{""}, s{"z"}, p},
		{s{"a", "b"}, s{"No name", most + "n"}, as("No name", most+"n", "c")},
	} {
		wantRenamed(t, fmt.Sprint("row ", i), p, x.from, x.to, x.want)
	}
	a, z := s{"a"}, s{"z"}
	wantRenamed(t, "the zero one", api.Pat{}, s{""}, z, api.Pat{})
	wantRenamed(t, "no Var", atom("", "x"), s{""}, z, atom("z", "x"))
	wantRenamed(t, "a Type of that name", atom("b", "a"), a, z, atom("b", "a"))
	for k := -1; k <= allKinds+1; k++ {
		q := api.Pat{K: k, Var: "a", Type: "a", Lo: 3, Hi: 4, L: []api.Pat{atom("a", "x"), {K: k, Var: "a"}}}
		x := api.Pat{K: k, Var: "a", Type: "a", Lo: 3, Hi: 4, L: []api.Pat{atom("z", "x"), {K: k, Var: "a"}}}
		if slices.Contains(ones, k) {
			x.Var, x.L[1].Var = "z", "z"
		}
		wantRenamed(t, fmt.Sprint("a Var of kind ", k), q, a, z, x)
	}
	wantRenamed(t, "deep below", chain(3000, atom("a", "x")), a, z, chain(3000, atom("z", "x")))
	wantRenamed(t, "one list twice", and(p, p, seq(p)), a, z, and(as("z", "b", "c"), as("z", "b", "c"), seq(as("z", "b", "c"))))
}

func TestRenameAsTheWordsSay(t *testing.T) {
	r := rand.New(rand.NewSource(124))
	for i, p := range corpus() {
		all := append(slices.Clone(names), "s0", "s1", "v0", "v1", "n0", "m", "c")
		for range 5 {
			var from, to []string
			for range r.Intn(8) {
				from = append(from, pick(r, all))
			}
			for range r.Intn(8) {
				to = append(to, pick(r, all))
			}
			wantRenamed(t, fmt.Sprint("pattern ", i), p, from, to, renamed(p, from, to))
		}
	}
}

func TestRenamedAndBack(t *testing.T) {
	for _, p := range corpus() {
		from, types, kinds := pat.Vars(p)
		var to []string
		for i := range from {
			to = append(to, fmt.Sprintf("new%d", i))
		}
		x := pat.Rename(p, from, to)
		wantVars(t, "what is renamed", x, to, types, kinds)
		if back := pat.Rename(x, to, from); !pat.Same(back, p) || said(back) != said(p) {
			t.Errorf("%s is %s when it is renamed and back", short(p), short(back))
		}
		if pat.Check(p) == api.OK && pat.Made(x) != pat.Made(p) {
			t.Errorf("%s renamed: Made %d, was %d", short(p), pat.Made(x), pat.Made(p))
		}
	}
}

func wantTail(t *testing.T, what string, p api.Pat, want api.Pat, ok bool) {
	t.Helper()
	was := said(p)
	x, found := pat.Tail(p)
	wantPat(t, "Tail of "+what, x, want)
	if found != ok {
		t.Errorf("Tail of %s, %s: %v", what, short(p), found)
	}
	if said(p) != was {
		t.Errorf("Tail of %s changed it", what)
	}
	wantOwn(t, "Tail of "+what, x, p, want)
}

func TestTail(t *testing.T) {
	a, b, n, m := atom("a", "buy"), many("b", "buy", 1, 0), not("n", "sell"), not("m", "tick")
	var zero api.Pat
	wantTail(t, "a PSeq with one", seq(a, n), n, true)
	wantTail(t, "a longer PSeq with one", seq(a, b, n, a, m), m, true)
	wantTail(t, "a PSeq without", seq(a, b), zero, false)
	wantTail(t, "a PSeq with one between", seq(a, n, b), zero, false)
	wantTail(t, "a PSeq with one first", seq(n, a), zero, false)
	wantTail(t, "a PAnd", and(a, n), zero, false)
	wantTail(t, "a POr", or(a, n), zero, false)
	wantTail(t, "a PNot", n, zero, false)
	wantTail(t, "an atom", a, zero, false)
	wantTail(t, "the zero one", zero, zero, false)
	wantTail(t, "one in a PSeq at the end", or(a, seq(b, n)), zero, false)
	wantTail(t, "one in a PSeq, further below", seq(a, or(b, seq(a, n))), zero, false)
	wantTail(t, "one in a PSeq in a PSeq", seq(a, seq(a, n)), zero, false)
	wantTail(t, "a PSeq of it alone", seq(n), n, true)
	wantTail(t, "a PSeq of two", seq(n, m), m, true)
	wantTail(t, "a PSeq of none", seq(), zero, false)
	wantTail(t, "a PSeq of an empty list", api.Pat{K: api.PSeq, L: []api.Pat{}}, zero, false)
	odd := api.Pat{K: api.PNot, Var: "A", Lo: 3, Hi: -1, L: []api.Pat{a, seq(a, n)}}
	wantTail(t, "one that can't be", seq(a, odd), copied(odd), true)
	for k := -2; k <= allKinds+2; k++ {
		for last := -2; last <= allKinds+2; last++ {
			x := api.Pat{K: last, Var: "v", Type: "t"}
			if k == api.PSeq && last == api.PNot {
				wantTail(t, "kinds", row(k, a, x), x, true)
			} else {
				wantTail(t, fmt.Sprintf("kind %d with kind %d last", k, last), row(k, a, x), zero, false)
			}
		}
	}
	for _, p := range corpus() {
		want, ok := zero, false
		if s := p.L; p.K == 2 && len(s) > 0 && s[len(s)-1].K == 6 {
			want, ok = copied(s[len(s)-1]), true
		}
		wantTail(t, "one of many", p, want, ok)
	}
}

// P12.3

func TestPartsOfRight(t *testing.T) {
	r := rand.New(rand.NewSource(125))
	all := corpus()
	for i := range 5000 {
		all = append(all, tame(r, 2+i%7, 1+i%9, 0))
	}
	n := 0
	for _, p := range all {
		if pat.Check(p) != api.OK {
			continue
		}
		n++
		for _, x := range stands(p) {
			part, ok := pat.At(p, x.way)
			if !ok || pat.Check(part) != api.OK {
				t.Fatalf("%s has a part at %v, %s: %d", short(p), x.way, short(part), pat.Check(part))
			}
		}
		if tail, ok := pat.Tail(p); ok && pat.Check(tail) != api.OK {
			t.Fatalf("the Tail of %s is not right", short(p))
		}
	}
	if n < 3000 {
		t.Errorf("only %d are right", n)
	}
}

// P1: calls end, and none panics.

func TestNestedAsDeepAsMayBe(t *testing.T) {
	const n = 1 << 16
	p := chain(n, atom("a", "x"))
	if pat.Size(p) != n || pat.Deep(p) != n || pat.Check(p) != api.ErrLong || pat.Made(p) != api.ErrLong {
		t.Error("Size, Deep, Check or Made of what is deep")
	}
	wantVars(t, "what is deep", p, []string{"a"}, []string{"x"}, []int{api.PAtom})
	q := chain(n, atom("b", "x"))
	if pat.Same(p, q) || !pat.Same(p, chain(n, atom("a", "x"))) || !pat.Same(pat.Rename(p, []string{"a"}, []string{"b"}), q) {
		t.Error("Same or Rename of what is deep")
	}
	way := make([]int, n-1)
	if x, ok := pat.At(p, way); !ok || !pat.Same(x, atom("a", "x")) {
		t.Error("At of what is deep")
	}
	if x, ok := pat.At(p, nil); !ok || !pat.Same(x, p) {
		t.Error("At of an empty way of what is deep")
	}
	if _, ok := pat.At(p, append(way, 0)); ok {
		t.Error("At beyond what is deep")
	}
	if x, ok := pat.Tail(seq(api.Pat{K: api.PNot, L: []api.Pat{p}})); !ok || pat.Size(x) != n+1 {
		t.Error("Tail of what is deep")
	}
	s := stairs(n, api.PSeq, api.PAnd, 1, atom("a", "x"))
	if pat.Size(s) != 2*n-1 || pat.Deep(s) != n || pat.Made(s) != api.ErrLong {
		t.Error("stairs")
	}
}

func TestManyNames(t *testing.T) {
	const n = 1 << 16
	var from, to []string
	var l []api.Pat
	for i := range n {
		from, to = append(from, fmt.Sprint("a", i)), append(to, fmt.Sprint("b", i))
		l = append(l, atom(from[i], "x"))
	}
	p := and(l...)
	x := pat.Rename(p, from, to)
	for i := range n {
		if x.L[i].Var != to[i] || p.L[i].Var != from[i] {
			t.Fatalf("part %d is of %s", i, x.L[i].Var)
		}
	}
	if v, _, _ := pat.Vars(x); !slices.Equal(v, to) || !pat.Same(pat.Rename(x, to, from), p) {
		t.Error("not the same when renamed back")
	}
}

// P3 and P4: nil and empty lists are the same; what is handed in is neither changed nor kept.

func TestWhatIsHandedIn(t *testing.T) {
	for _, p := range corpus() {
		x := roomy(p)
		if pat.Check(x) != pat.Check(p) || pat.Made(x) != pat.Made(p) || pat.Size(x) != pat.Size(p) || pat.Deep(x) != pat.Deep(p) || !pat.Same(x, p) {
			t.Errorf("%s and one with empty lists differ", short(p))
		}
		v, y, k := varsOf(p)
		wantVars(t, "one with empty lists", x, v, y, k)
		from, to := slices.Grow(slices.Clone(v), 3), slices.Grow(slices.Clone(y), 3)
		wantRenamed(t, "one with empty lists", x, from, to, renamed(p, v, y))
		wantAt(t, "one with empty lists", x, nil, copied(p), true)
		pat.Tail(x)
		if !roomIsLeft(x) || said(x) != said(p) || !slices.Equal(from, v) || !slices.Equal(to, y) {
			t.Errorf("%s: what lies behind its lists is changed", short(p))
		}
	}
}

func FuzzPat(f *testing.F) {
	for i := range int64(8) {
		f.Add(i, i+1, "a", "b")
	}
	f.Fuzz(func(t *testing.T, s1, s2 int64, a, b string) {
		r := rand.New(rand.NewSource(s1))
		x, y := wild(r, 4), tame(r, 4, 20, 0)
		y = seq(atom(a, b), not(b, a), or(y, atom(a, b)), not("n", a))
		r = rand.New(rand.NewSource(s2))
		z := changed(r, pick(r, []api.Pat{x, y}))
		all := []api.Pat{x, y, z}
		for _, p := range all {
			wantCheck(t, "fuzz", p, checked(p))
			if pat.Size(p) != sizeOf(p) || pat.Deep(p) != deepOf(p) || pat.Made(p) != made(p) {
				t.Errorf("Size, Deep or Made of %s", short(p))
			}
			v, u, k := varsOf(p)
			wantVars(t, "fuzz", p, v, u, k)
			from, to := []string{a, pick(r, names), b, a}, []string{b, pick(r, names), a}
			wantRenamed(t, "fuzz", p, from, to, renamed(p, from, to))
			for _, s := range stands(p) {
				wantAt(t, "fuzz", p, s.way, copied(s.p), true)
			}
			for _, q := range all {
				wantSame(t, "fuzz", p, q, said(p) == said(q))
			}
		}
	})
}
