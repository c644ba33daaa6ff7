package eval_test

import (
	"fmt"
	"math"
	"math/big"
	"math/rand"
	"slices"
	"strings"
	"testing"

	"haruspex/api"
	"haruspex/eval"
	"haruspex/expr"
	"haruspex/typing"
)

const allKinds = api.XOr

var (
	null    = api.Value{}
	yes     = api.Value{K: api.VBool, N: 1}
	no      = api.Value{K: api.VBool}
	most    = strings.Repeat("n", api.MaxName)
	full    = strings.Repeat("t", api.MaxText)
	reckons = []int{api.XAdd, api.XSub, api.XMul, api.XDiv, api.XMod}
	equals  = []int{api.XEq, api.XNe}
	orders  = []int{api.XLt, api.XLe, api.XGt, api.XGe}
	more    = []int{api.XAnd, api.XOr}
	two     = slices.Concat(reckons, equals, orders)
)

type look = func(v string, field string) (api.Value, bool)

func number(n int64) api.Value { return api.Value{K: api.VInt, N: n} }

func text(s string) api.Value { return api.Value{K: api.VText, S: s} }

func fixed(v api.Value) api.Expr { return api.Expr{K: api.XConst, V: v} }

func num(n int64) api.Expr { return fixed(number(n)) }

func field(v, f string) api.Expr { return api.Expr{K: api.XField, Var: v, Field: f} }

func op(k int, l ...api.Expr) api.Expr { return api.Expr{K: k, L: l} }

func not(x api.Expr) api.Expr { return op(api.XNot, x) }

// chain has n nodes, one below the other, down to leaf.
func chain(k, n int, leaf api.Expr) api.Expr {
	for range n - 1 {
		leaf = op(k, leaf)
	}
	return leaf
}

// stairs has 2n+1 nodes: each has the next one as its part at that place, and other as its other part.
func stairs(k, n, at int, leaf, other api.Expr) api.Expr {
	for range n {
		l := []api.Expr{other, other}
		l[at] = leaf
		leaf = op(k, l...)
	}
	return leaf
}

func short(x any) string { return fmt.Sprintf("%.300s", fmt.Sprintf("%+v", x)) }

// said tells all fields of all nodes.
func said(x api.Expr) string {
	var b strings.Builder
	for _, y := range inRow(x) {
		fmt.Fprintf(&b, "(%d %v %q %q %d)", y.K, y.V, y.Var, y.Field, len(y.L))
	}
	return b.String()
}

// wantSay asks Say and, as it hangs on that, Holds.
func wantSay(t *testing.T, what string, x api.Expr, look look, want api.Value, err api.Errno) {
	t.Helper()
	was := said(x)
	if v, e := eval.Say(x, look); v != want || e != err {
		t.Errorf("Say of %s, %s: %s, %d, want %s, %d", what, short(x), short(v), e, short(want), err)
	}
	if got := eval.Holds(x, look); got != (err == api.OK && want == yes) {
		t.Errorf("Holds of %s, %s: %v", what, short(x), got)
	}
	if said(x) != was {
		t.Errorf("%s is changed", what)
	}
}

func wantTold(t *testing.T, what string, look look, v, f string, want api.Value, ok bool) {
	t.Helper()
	if got, is := look(v, f); got != want || is != ok {
		t.Errorf("%s tells of %q, %q: %s, %v, want %s, %v", what, v, f, short(got), is, short(want), ok)
	}
}

// always is a look that tells the same of all.
func always(v api.Value, ok bool) look {
	return func(string, string) (api.Value, bool) { return v, ok }
}

// shelf is a look made by other means than Table: what it has is by "Var.field".
func shelf(of map[string]api.Value) look {
	return func(v, f string) (api.Value, bool) {
		got, ok := of[v+"."+f]
		return got, ok
	}
}

// goods has fields of each kind, null among them, and some that are not right.
func goods() map[string]api.Value {
	of := map[string]api.Value{
		"a.x": number(7), "a.k": text("p"), "a.b": yes, "a.n": null, "b.x": number(-3), "b.k": text("pq"), "b.b": no, "b.n": null,
		"c.most": number(math.MaxInt64), "c.least": number(math.MinInt64), "c.zero": number(0), "c.one": number(-1), "c.empty": text(""), "c.full": text(full),
		most + "." + most: number(1),
	}
	for i, v := range wrongValues() {
		of[fmt.Sprint("w.w", i)] = v
	}
	return of
}

// wrongValues are values that are not right.
func wrongValues() []api.Value {
	return []api.Value{{N: 1}, {S: "x"}, {K: 4}, {K: -1}, {K: math.MaxInt}, {K: math.MinInt}, {K: 1<<32 + 1}, {K: api.VBool, N: 2}, {K: api.VBool, N: -1}, {K: api.VBool, S: "x"}, {K: api.VBool, N: 1, S: "x"}, {K: api.VInt, S: "x"}, {K: api.VInt, N: 7, S: "x"}, {K: api.VText, N: 1}, {K: api.VText, N: 1, S: "x"}, text(full + "t")}
}

// rightValues has values of each kind, by kinds, the least and the greatest ones among them.
func rightValues() []api.Value {
	return []api.Value{null, no, yes, number(math.MinInt64), number(math.MinInt64 + 1), number(-7), number(-1), number(0), number(1), number(2), number(7), number(1 << 62), number(math.MaxInt64 - 1), number(math.MaxInt64), text(""), text("0"), text("7"), text("NULL"), text("TRUE"), text("a"), text("a\x00"), text("aa"), text("b"), text(full), text("é\xff")}
}

// A model of the chapter's words, by other means: the nodes in a row, parts ahead of what they are parts of, and a heap of values.

func inRow(x api.Expr) []api.Expr {
	var l []api.Expr
	wait := []api.Expr{x}
	for len(wait) > 0 {
		y := wait[len(wait)-1]
		l = append(l, y)
		wait = append(wait[:len(wait)-1], y.L...)
	}
	slices.Reverse(l)
	return l
}

// modelSay takes what a look tells as "Var.field", and only conditions that are right.
func modelSay(of map[string]api.Value, x api.Expr) (api.Value, api.Errno) {
	var heap []api.Value
	for _, y := range inRow(x) {
		at := len(heap) - len(y.L)
		v, e := modelNode(of, y, heap[at:])
		if e != 0 {
			return api.Value{}, e
		}
		heap = append(heap[:at], v)
	}
	return heap[0], 0
}

func modelNode(of map[string]api.Value, y api.Expr, l []api.Value) (api.Value, api.Errno) {
	row := ""
	for _, v := range l {
		row += fmt.Sprint(v.K)
	}
	switch {
	case y.K == 1:
		return y.V, 0
	case y.K == 2:
		v, ok := of[y.Var+"."+y.Field]
		switch {
		case !ok:
			return null, 6
		case slices.Contains(wrongValues(), v):
			return null, 1
		}
		return v, 0
	case y.K <= 8:
		return modelNumber(y.K, row, l)
	case y.K <= 14:
		return modelCompared(y.K, row, l)
	case strings.Trim(row, "01") != "":
		return null, 5
	}
	trues := 0
	for _, v := range l {
		if v == yes {
			trues++
		}
	}
	return truth(y.K == 15 && trues == 0 || y.K == 16 && trues == len(l) || y.K == 17 && trues > 0), 0
}

func truth(b bool) api.Value {
	if b {
		return yes
	}
	return no
}

func modelNumber(k int, row string, l []api.Value) (api.Value, api.Errno) {
	switch {
	case strings.Contains(row, "0"):
		return null, 0
	case strings.Trim(row, "2") != "":
		return null, 5
	}
	a, n := big.NewInt(l[0].N), new(big.Int)
	switch k {
	case api.XNeg:
		n.Neg(a)
	default:
		b := big.NewInt(l[1].N)
		if k >= api.XDiv && b.Sign() == 0 {
			return null, 10
		}
		map[int]func(x, y *big.Int) *big.Int{4: n.Add, 5: n.Sub, 6: n.Mul, 7: n.Quo, 8: n.Rem}[k](a, b)
	}
	if !n.IsInt64() {
		return null, 10
	}
	return number(n.Int64()), 0
}

func modelCompared(k int, row string, l []api.Value) (api.Value, api.Errno) {
	a, b := fmt.Sprintf("%d %d %q", l[0].K, l[0].N, l[0].S), fmt.Sprintf("%d %d %q", l[1].K, l[1].N, l[1].S)
	switch {
	case k == api.XEq:
		return truth(a == b), 0
	case k == api.XNe:
		return truth(a != b), 0
	case strings.Contains(row, "0"):
		return no, 0
	case row != "22" && row != "33":
		return null, 5
	}
	c := big.NewInt(l[0].N).Cmp(big.NewInt(l[1].N))
	if row == "33" {
		c = strings.Compare(l[0].S, l[1].S)
	}
	return truth(strings.Contains(map[int]string{11: "-1", 12: "-1 0", 13: "+1", 14: "+1 0"}[k], []string{"-1", "0", "+1"}[c+1])), 0
}

// wantModel asks with constants and, of the same values, with fields.
func wantModel(t *testing.T, what string, k int, l ...api.Value) {
	t.Helper()
	of := map[string]api.Value{}
	x, y := api.Expr{K: k}, api.Expr{K: k}
	for i, v := range l {
		of[fmt.Sprint("v.f", i)] = v
		x.L, y.L = append(x.L, fixed(v)), append(y.L, field("v", fmt.Sprint("f", i)))
	}
	want, e := modelSay(of, x)
	wantSay(t, what+" of constants", x, shelf(of), want, e)
	wantSay(t, what+" of fields", y, shelf(of), want, e)
}

// refused has, by its error, conditions that are right and that goods refuses.
func refused() map[api.Errno][]api.Expr {
	a, b, n := field("a", "x"), field("a", "b"), field("a", "n")
	return map[api.Errno][]api.Expr{
		api.ErrArg:  {field("w", "w0"), field("w", "w7"), field("w", "w15"), not(field("w", "w3")), op(api.XAdd, n, field("w", "w11"))},
		api.ErrNone: {field("z", "x"), field("a", "z"), field("x", "a"), op(api.XNeg, field("z", "z")), op(api.XAnd, field("b", "b"), b, field("z", "b"))},
		api.ErrType: {op(api.XNeg, b), op(api.XAdd, a, field("a", "k")), op(api.XLt, a, field("a", "k")), op(api.XGe, b, b), not(a), op(api.XAnd, n, a), op(api.XOr, b, field("a", "k"))},
		api.ErrOver: {op(api.XAdd, a, field("c", "most")), op(api.XSub, field("c", "least"), a), op(api.XMul, a, field("c", "most")), op(api.XDiv, a, field("c", "zero")), op(api.XMod, a, num(0)), op(api.XNeg, field("c", "least")), op(api.XGt, op(api.XAdd, num(math.MaxInt64), num(1)), num(0))},
	}
}

// around sets x at each place of right conditions; all their other parts are said.
func around(x api.Expr) []api.Expr {
	l := []api.Expr{op(api.XNeg, x), not(x), not(not(x)), not(not(not(x))), op(api.XNeg, op(api.XNeg, x))}
	others := []api.Expr{fixed(null), fixed(yes), fixed(no), num(0), num(1), fixed(text("")), field("a", "x"), field("a", "n"), not(field("a", "b"))}
	for _, k := range slices.Concat(two, more) {
		for _, y := range others {
			if k < api.XAnd || x.K != k {
				l = append(l, op(k, x, y), op(k, y, x))
			}
		}
	}
	for _, k := range more {
		if x.K != k {
			l = append(l, op(k, fixed(yes), fixed(no), x, fixed(null)), op(k, num(1), x, fixed(text(""))), op(k, fixed(yes), not(op(k, fixed(no), x))))
		}
	}
	return l
}

// notRight are conditions that expr.Check refuses.
func notRight() []api.Expr {
	a, z := field("a", "x"), field("z", "z")
	l := []api.Expr{
		{}, {K: -1}, {K: allKinds + 1}, {K: math.MaxInt}, {K: math.MinInt}, {V: yes}, {K: allKinds + 1, L: []api.Expr{a, a}}, {K: api.XConst, V: yes, Var: "z"}, {K: api.XConst, V: yes, L: []api.Expr{a}}, {K: api.XField, Var: "a", Field: "x", V: yes}, {K: api.XField, Var: "z", Field: "z", L: []api.Expr{a}},
		field("", "x"), field("A", "x"), field("a", ""), field("a", "X"), field(most+"n", "x"), field("é", "x"),
		op(api.XNeg), op(api.XNeg, a, a), op(api.XNeg, z, z), op(api.XNot), op(api.XNot, fixed(yes), fixed(yes)), {K: api.XNot, Field: "x", L: []api.Expr{fixed(yes)}},
		op(api.XAnd), op(api.XAnd, fixed(yes)), op(api.XOr, z), op(api.XAnd, z, op(api.XAnd, fixed(yes), fixed(yes))), op(api.XOr, op(api.XOr, fixed(yes), fixed(yes)), fixed(yes)),
		op(api.XAnd, slices.Repeat([]api.Expr{fixed(yes)}, api.MaxExpr)...), op(api.XOr, slices.Repeat([]api.Expr{z}, api.MaxExpr)...), op(api.XOr, make([]api.Expr, 1<<12)...),
		chain(api.XNot, api.MaxExpr+1, fixed(yes)), chain(api.XNeg, api.MaxExpr+1, z), chain(api.XNot, 1<<16, fixed(yes)), stairs(api.XAdd, 50, 0, a, num(0)), stairs(api.XAdd, 50, 1, a, num(0)),
	}
	for _, v := range wrongValues() {
		l = append(l, fixed(v), op(api.XEq, fixed(v), fixed(v)))
	}
	for _, k := range two {
		l = append(l, op(k), op(k, a), op(k, a, a, a), op(k, z, z, z), op(k, a, api.Expr{}), op(k, z, api.Expr{}), op(k, api.Expr{}, z), api.Expr{K: k, V: yes, L: []api.Expr{a, a}})
	}
	return l
}

// P11.1

func TestExamples(t *testing.T) {
	over := op(api.XGt, op(api.XAdd, num(math.MaxInt64), num(1)), num(0))
	wantSay(t, "the chapter's", over, always(null, false), null, api.ErrOver)
	wantSay(t, "its negation", not(over), always(null, false), null, api.ErrOver)
	sixth := not(op(api.XOr, op(api.XEq, field("a", "x"), num(1)), op(api.XEq, field("b", "x"), num(2))))
	for _, c := range []struct {
		a, b, want api.Value
	}{{number(1), number(2), no}, {number(1), number(1), no}, {number(2), number(2), no}, {number(2), number(1), yes}, {null, null, yes}, {text("1"), text("2"), yes}} {
		wantSay(t, "the document's sixth", sixth, shelf(map[string]api.Value{"a.x": c.a, "b.x": c.b}), c.want, api.OK)
	}
	wantSay(t, "the chapter's of layer 10", op(api.XLt, op(api.XAdd, field("a", "x"), num(1)), num(5)), always(number(3), true), yes, api.OK)
	wantSay(t, "the chapter's of layer 10", op(api.XLt, op(api.XAdd, field("a", "x"), num(1)), num(5)), always(number(4), true), no, api.OK)
}

func TestSayConst(t *testing.T) {
	for _, v := range rightValues() {
		for _, look := range []look{always(null, false), always(number(1), true), always(api.Value{K: 9}, true)} {
			wantSay(t, "a constant", fixed(v), look, v, api.OK)
		}
	}
}

func TestSayField(t *testing.T) {
	for _, v := range rightValues() {
		wantSay(t, "a field", field("a", "x"), always(v, true), v, api.OK)
		wantSay(t, "a field that is none, with a value", field("a", "x"), always(v, false), null, api.ErrNone)
	}
	for _, v := range wrongValues() {
		wantSay(t, "a field that is not right", field("a", "x"), always(v, true), null, api.ErrArg)
		wantSay(t, "a field that is none and not right", field("a", "x"), always(v, false), null, api.ErrNone)
	}
	of := goods()
	for _, c := range [][2]string{{"a", "x"}, {"a", "k"}, {"a", "b"}, {"a", "n"}, {"b", "x"}, {"b", "k"}, {"b", "b"}, {"c", "most"}, {"c", "least"}, {"c", "empty"}, {"c", "full"}, {most, most}} {
		wantSay(t, "what is there", field(c[0], c[1]), shelf(of), of[c[0]+"."+c[1]], api.OK)
	}
	for _, c := range [][2]string{{"x", "a"}, {"a", "z"}, {"z", "x"}, {"a", "most"}, {"c", "x"}, {most, most[1:]}, {"w", "w99"}} {
		wantSay(t, "what is not there", field(c[0], c[1]), shelf(of), null, api.ErrNone)
	}
}

func TestSayOfALookThatPanics(t *testing.T) {
	for _, look := range []look{
		func(string, string) (api.Value, bool) { panic("no look") },
		func(v, f string) (api.Value, bool) { return []api.Value{}[len(v)], true },
		func(v, f string) (api.Value, bool) { var other look; return other(v, f) },
	} {
		wantSay(t, "a field", field("a", "x"), look, null, api.ErrArg)
		wantSay(t, "a field below", not(op(api.XOr, fixed(yes), op(api.XEq, field("a", "x"), fixed(null)))), look, null, api.ErrArg)
		wantSay(t, "no field", not(fixed(no)), look, yes, api.OK)
		wantSay(t, "a field behind another error", op(api.XEq, op(api.XNeg, fixed(yes)), field("a", "x")), look, null, api.ErrType)
	}
}

// The look is asked of each field, in order, with its Var first; nothing that is said ahead of it keeps it from being asked.
func TestSayAsksInOrder(t *testing.T) {
	x := op(api.XAnd, fixed(no), op(api.XLt, op(api.XAdd, field("b", "x"), field("a", "y")), op(api.XNeg, field("a", "y"))), op(api.XOr, fixed(yes), op(api.XEq, field("c", "z"), fixed(null))), op(api.XGe, field("d", "e"), field("e", "d")))
	var got []string
	look := func(v, f string) (api.Value, bool) {
		got = append(got, v+"."+f)
		return number(int64(len(got))), true
	}
	if v, e := eval.Say(x, look); v != no || e != api.OK {
		t.Errorf("Say: %v, %d", v, e)
	}
	if want := "b.x a.y a.y c.z d.e e.d"; strings.Join(got, " ") != want {
		t.Errorf("asked %s, want %s", got, want)
	}
	// A look that tells another value each time tells apart which part is first.
	for k, want := range map[int]api.Value{api.XAdd: number(3), api.XSub: number(-1), api.XMul: number(2), api.XDiv: number(0), api.XMod: number(1), api.XEq: no, api.XNe: yes, api.XLt: yes, api.XLe: yes, api.XGt: no, api.XGe: no} {
		got = nil
		if v, e := eval.Say(op(k, field("a", "x"), field("a", "x")), look); v != want || e != api.OK {
			t.Errorf("Say of kind %d: %v, %d, want %v", k, v, e, want)
		}
	}
}

func TestSayNumbers(t *testing.T) {
	for _, c := range []struct {
		k          int
		a, b, want int64
	}{
		{api.XAdd, 2, 3, 5}, {api.XAdd, -2, -3, -5}, {api.XAdd, math.MaxInt64, math.MinInt64, -1}, {api.XAdd, math.MaxInt64, 0, math.MaxInt64}, {api.XAdd, math.MaxInt64 - 1, 1, math.MaxInt64}, {api.XAdd, math.MinInt64 + 1, -1, math.MinInt64},
		{api.XSub, 2, 3, -1}, {api.XSub, 3, 2, 1}, {api.XSub, -1, math.MinInt64, math.MaxInt64}, {api.XSub, -1, math.MaxInt64, math.MinInt64}, {api.XSub, math.MinInt64, math.MinInt64, 0},
		{api.XMul, 2, 3, 6}, {api.XMul, -2, 3, -6}, {api.XMul, 1 << 32, -(1 << 31), math.MinInt64}, {api.XMul, math.MinInt64, 1, math.MinInt64}, {api.XMul, math.MaxInt64, -1, -math.MaxInt64}, {api.XMul, math.MinInt64, 0, 0},
		{api.XDiv, 7, 2, 3}, {api.XDiv, -7, 2, -3}, {api.XDiv, 7, -2, -3}, {api.XDiv, -7, -2, 3}, {api.XDiv, 2, 7, 0}, {api.XDiv, math.MinInt64, 1, math.MinInt64}, {api.XDiv, math.MinInt64, math.MinInt64, 1}, {api.XDiv, math.MaxInt64, -1, -math.MaxInt64}, {api.XDiv, math.MinInt64 + 1, -1, math.MaxInt64}, {api.XDiv, math.MinInt64, 2, -(1 << 62)}, {api.XDiv, 1, math.MinInt64, 0},
		{api.XMod, 7, 2, 1}, {api.XMod, -7, 2, -1}, {api.XMod, 7, -2, 1}, {api.XMod, -7, -2, -1}, {api.XMod, 7, 4, 3}, {api.XMod, math.MinInt64, -1, 0}, {api.XMod, math.MinInt64, 10, -8}, {api.XMod, math.MinInt64, math.MinInt64, 0}, {api.XMod, 1, math.MinInt64, 1}, {api.XMod, 0, 5, 0},
	} {
		wantSay(t, "two numbers", op(c.k, num(c.a), num(c.b)), always(null, false), number(c.want), api.OK)
	}
	for n, want := range map[int64]int64{0: 0, 1: -1, -1: 1, 7: -7, math.MaxInt64: -math.MaxInt64, -math.MaxInt64: math.MaxInt64} {
		wantSay(t, "a number", op(api.XNeg, num(n)), always(null, false), number(want), api.OK)
	}
}

func TestSayOverflows(t *testing.T) {
	for _, c := range []struct {
		k    int
		a, b int64
	}{
		{api.XAdd, math.MaxInt64, 1}, {api.XAdd, 1, math.MaxInt64}, {api.XAdd, math.MinInt64, -1}, {api.XAdd, math.MinInt64, math.MinInt64}, {api.XAdd, math.MaxInt64, math.MaxInt64},
		{api.XSub, math.MinInt64, 1}, {api.XSub, math.MaxInt64, -1}, {api.XSub, 0, math.MinInt64}, {api.XSub, -2, math.MaxInt64},
		{api.XMul, 1 << 62, 2}, {api.XMul, math.MinInt64, -1}, {api.XMul, -1, math.MinInt64}, {api.XMul, 1 << 32, 1 << 31}, {api.XMul, 1 << 32, 1 << 32}, {api.XMul, math.MaxInt64, math.MinInt64},
		{api.XDiv, math.MinInt64, -1}, {api.XDiv, 1, 0}, {api.XDiv, 0, 0}, {api.XDiv, math.MinInt64, 0}, {api.XMod, 1, 0}, {api.XMod, 0, 0}, {api.XMod, math.MinInt64, 0},
	} {
		wantSay(t, "two numbers", op(c.k, num(c.a), num(c.b)), always(null, false), null, api.ErrOver)
	}
	wantSay(t, "the least", op(api.XNeg, num(math.MinInt64)), always(null, false), null, api.ErrOver)
	wantSay(t, "what is between", op(api.XSub, op(api.XAdd, num(math.MaxInt64), num(1)), num(1)), always(null, false), null, api.ErrOver)
}

// TestSayOfParts has each kind of condition with each two values.
func TestSayOfParts(t *testing.T) {
	for _, a := range rightValues() {
		wantModel(t, "one part", api.XNeg, a)
		wantModel(t, "one part", api.XNot, a)
		for _, b := range rightValues() {
			for _, k := range slices.Concat(two, more) {
				wantModel(t, "two parts", k, a, b)
			}
		}
	}
}

func TestSayOfNull(t *testing.T) {
	for _, v := range rightValues() {
		for _, l := range [][]api.Value{{null, v}, {v, null}} {
			for _, k := range reckons {
				wantSay(t, "numbers and null", op(k, fixed(l[0]), fixed(l[1])), shelf(nil), null, api.OK)
			}
			for _, k := range orders {
				wantSay(t, "an order and null", op(k, fixed(l[0]), fixed(l[1])), shelf(nil), no, api.OK)
			}
			wantSay(t, "equals and null", op(api.XEq, fixed(l[0]), fixed(l[1])), shelf(nil), truth(v == null), api.OK)
			wantSay(t, "unlike and null", op(api.XNe, fixed(l[0]), fixed(l[1])), shelf(nil), truth(v != null), api.OK)
		}
	}
	wantSay(t, "null by 0", op(api.XDiv, fixed(null), num(0)), shelf(nil), null, api.OK)
	wantSay(t, "0 by null", op(api.XMod, num(0), field("a", "n")), shelf(goods()), null, api.OK)
	wantSay(t, "the negative of null", op(api.XNeg, fixed(null)), shelf(nil), null, api.OK)
	wantSay(t, "not null", not(fixed(null)), shelf(nil), yes, api.OK)
	wantSay(t, "not not null", not(not(fixed(null))), shelf(nil), no, api.OK)
	wantSay(t, "null on its way up", op(api.XAdd, num(1), op(api.XMul, op(api.XNeg, field("a", "n")), num(2))), shelf(goods()), null, api.OK)
	wantSay(t, "null and a text on its way up", op(api.XAdd, field("a", "k"), op(api.XMul, field("a", "n"), num(2))), shelf(goods()), null, api.OK)
}

func TestSayEqual(t *testing.T) {
	for i, a := range rightValues() {
		for j, b := range rightValues() {
			wantSay(t, "equal", op(api.XEq, fixed(a), fixed(b)), shelf(nil), truth(i == j), api.OK)
			wantSay(t, "unlike", op(api.XNe, fixed(a), fixed(b)), shelf(nil), truth(i != j), api.OK)
		}
	}
	for _, c := range [][2]api.Value{{null, no}, {null, number(0)}, {null, text("")}, {no, number(0)}, {yes, number(1)}, {number(7), text("7")}, {text(""), number(0)}, {text("NULL"), null}, {text("a"), text("A")}} {
		wantSay(t, "unlike ones", op(api.XEq, fixed(c[0]), fixed(c[1])), shelf(nil), no, api.OK)
		wantSay(t, "unlike ones", op(api.XNe, fixed(c[1]), fixed(c[0])), shelf(nil), yes, api.OK)
	}
}

// TestSayOrder goes on that rightValues has its numbers and its texts in a row.
func TestSayOrder(t *testing.T) {
	for i, a := range rightValues() {
		for j, b := range rightValues() {
			if a.K != b.K || a.K < api.VInt {
				continue
			}
			for k, want := range map[int]bool{api.XLt: i < j, api.XLe: i <= j, api.XGt: i > j, api.XGe: i >= j} {
				wantSay(t, "two of a kind", op(k, fixed(a), fixed(b)), shelf(nil), truth(want), api.OK)
			}
		}
	}
}

// TestSayRows has each row of up to five parts, of which null and bools may be.
func TestSayRows(t *testing.T) {
	all := []api.Value{null, no, yes, number(1), text("TRUE")}
	rows := [][]api.Value{{}}
	for size := 1; size <= 5; size++ {
		var longer [][]api.Value
		for _, row := range rows {
			for _, v := range all {
				longer = append(longer, append(slices.Clone(row), v))
			}
		}
		rows = longer
		for _, row := range rows {
			if size < 2 {
				continue
			}
			wrong := slices.Contains(row, number(1)) || slices.Contains(row, text("TRUE"))
			and, or, e := truth(!slices.Contains(row, no) && !slices.Contains(row, null)), truth(slices.Contains(row, yes)), api.OK
			if wrong {
				and, or, e = null, null, api.ErrType
			}
			var l []api.Expr
			for _, v := range row {
				l = append(l, fixed(v))
			}
			wantSay(t, "a row", op(api.XAnd, l...), shelf(nil), and, e)
			wantSay(t, "a row", op(api.XOr, l...), shelf(nil), or, e)
		}
	}
	for _, k := range more {
		for at := range api.MaxExpr - 1 {
			for _, v := range all {
				l := slices.Repeat([]api.Expr{fixed(truth(k == api.XAnd))}, api.MaxExpr-1)
				l[at] = fixed(v)
				want, e := modelSay(nil, op(k, l...))
				wantSay(t, "as many as may be", op(k, l...), shelf(nil), want, e)
			}
		}
	}
}

func TestSayRefusesKinds(t *testing.T) {
	for _, v := range []api.Value{no, yes, text(""), text("1")} {
		wantSay(t, "no number", op(api.XNeg, fixed(v)), shelf(nil), null, api.ErrType)
		for _, k := range reckons {
			wantSay(t, "no number first", op(k, fixed(v), num(0)), shelf(nil), null, api.ErrType)
			wantSay(t, "no number last", op(k, num(1), fixed(v)), shelf(nil), null, api.ErrType)
			wantSay(t, "no number at all", op(k, fixed(v), fixed(v)), shelf(nil), null, api.ErrType)
			wantSay(t, "no number and null", op(k, fixed(v), fixed(null)), shelf(nil), null, api.OK)
			wantSay(t, "null and no number", op(k, fixed(null), fixed(v)), shelf(nil), null, api.OK)
		}
	}
	for _, v := range []api.Value{number(0), number(1), text(""), text("TRUE")} {
		wantSay(t, "no bool", not(fixed(v)), shelf(nil), null, api.ErrType)
		for _, k := range more {
			for _, other := range []api.Value{null, no, yes} {
				wantSay(t, "no bool first", op(k, fixed(v), fixed(other)), shelf(nil), null, api.ErrType)
				wantSay(t, "no bool last", op(k, fixed(other), fixed(v)), shelf(nil), null, api.ErrType)
				wantSay(t, "no bool between", op(k, fixed(other), fixed(v), fixed(other)), shelf(nil), null, api.ErrType)
			}
		}
	}
	for _, k := range orders {
		for _, c := range [][2]api.Value{{number(1), text("1")}, {number(0), no}, {number(1), yes}, {yes, text("")}, {no, yes}, {yes, yes}, {no, no}} {
			wantSay(t, "unlike ones", op(k, fixed(c[0]), fixed(c[1])), shelf(nil), null, api.ErrType)
			wantSay(t, "unlike ones", op(k, fixed(c[1]), fixed(c[0])), shelf(nil), null, api.ErrType)
		}
	}
}

// TestSayRefusesParts has parts that are refused at each place: nothing else there, null or what decides, keeps that from being told.
func TestSayRefusesParts(t *testing.T) {
	look := shelf(goods())
	for e, l := range refused() {
		for _, x := range l {
			wantSay(t, "a refused one", x, look, null, e)
			for i, y := range around(x) {
				wantSay(t, fmt.Sprint("a refused one in ", i), y, look, null, e)
			}
		}
	}
}

// TestFirstErrorWins has two parts that are refused, each in its own way.
func TestFirstErrorWins(t *testing.T) {
	look := shelf(goods())
	for e, l := range refused() {
		for _, m := range refused() {
			for _, x := range l {
				for _, y := range m {
					for _, k := range slices.Concat(two, more) {
						if k >= api.XAnd && (x.K == k || y.K == k) {
							continue
						}
						wantSay(t, "two refused", op(k, x, y), look, null, e)
						wantSay(t, "two refused, the first deeper", op(k, op(api.XNeg, not(op(api.XEq, fixed(yes), x))), y), look, null, e)
						wantSay(t, "two refused, the second deeper", op(k, x, op(api.XNeg, not(op(api.XEq, y, fixed(yes))))), look, null, e)
					}
					for _, k := range more {
						if x.K != k && y.K != k {
							wantSay(t, "two refused behind a wrong kind", op(k, num(1), fixed(null), x, y), look, null, e)
						}
					}
				}
			}
		}
	}
}

func TestSayRefusesWhatIsNotRight(t *testing.T) {
	asked := 0
	count := func(string, string) (api.Value, bool) { asked++; return null, false }
	for i, x := range notRight() {
		if expr.Check(x) == api.OK {
			t.Fatalf("%d is right: %s", i, short(x))
		}
		for _, look := range []look{nil, count, shelf(goods()), always(yes, true), always(api.Value{K: 9}, true)} {
			wantSay(t, fmt.Sprint("not right ", i), x, look, null, api.ErrArg)
			wantSay(t, fmt.Sprint("below, behind one that is none ", i), op(api.XEq, field("z", "z"), x), look, null, api.ErrArg)
			wantSay(t, fmt.Sprint("below, behind a wrong kind ", i), op(api.XAdd, op(api.XNeg, fixed(yes)), x), look, null, api.ErrArg)
			wantSay(t, fmt.Sprint("below, ahead of what overflows ", i), op(api.XLt, x, op(api.XNeg, num(math.MinInt64))), look, null, api.ErrArg)
		}
	}
	if asked > 0 {
		t.Errorf("the look was asked %d times", asked)
	}
}

func TestSayOfWhatHasNoEnd(t *testing.T) {
	l := make([]api.Expr, 1)
	l[0] = api.Expr{K: api.XNot, L: l}
	x := l[0]
	for _, look := range []look{nil, always(yes, true)} {
		if v, e := eval.Say(x, look); v != null || e != api.ErrArg || eval.Holds(x, look) {
			t.Errorf("Say: %v, %d", v, e)
		}
	}
}

func TestSayOfNoLook(t *testing.T) {
	for _, v := range rightValues() {
		wantSay(t, "a constant", fixed(v), nil, null, api.ErrArg)
	}
	wantSay(t, "a field", field("a", "x"), nil, null, api.ErrArg)
	wantSay(t, "no field at all", op(api.XEq, num(1), num(1)), nil, null, api.ErrArg)
	for _, l := range refused() {
		for _, x := range l {
			wantSay(t, "a refused one", x, nil, null, api.ErrArg)
		}
	}
}

func TestSayDeep(t *testing.T) {
	of := goods()
	for _, size := range []int{2, 3, 50, api.MaxExpr - 1, api.MaxExpr} {
		wantSay(t, "nots", chain(api.XNot, size, field("a", "b")), shelf(of), truth(size%2 == 1), api.OK)
		wantSay(t, "nots of null", chain(api.XNot, size, field("a", "n")), shelf(of), truth(size%2 == 0), api.OK)
		wantSay(t, "negatives", chain(api.XNeg, size, field("a", "x")), shelf(of), number(int64(7*(2*(size%2)-1))), api.OK)
		wantSay(t, "negatives of null", chain(api.XNeg, size, field("a", "n")), shelf(of), null, api.OK)
		wantSay(t, "negatives of the least", chain(api.XNeg, size, field("c", "least")), shelf(of), null, api.ErrOver)
		wantSay(t, "nots of a number", chain(api.XNot, size, field("a", "x")), shelf(of), null, api.ErrType)
		wantSay(t, "nots of none", chain(api.XNot, size, field("z", "x")), shelf(of), null, api.ErrNone)
		wantSay(t, "nots of what is not right", chain(api.XNot, size, field("w", "w0")), shelf(of), null, api.ErrArg)
	}
	for at := range 2 {
		wantSay(t, "stairs of sums", stairs(api.XAdd, 49, at, field("a", "x"), num(2)), shelf(of), number(105), api.OK)
		wantSay(t, "stairs of products", stairs(api.XMul, 49, at, num(1), num(2)), shelf(of), number(1<<49), api.OK)
		wantSay(t, "stairs of products that overflow", stairs(api.XMul, 49, at, field("a", "x"), num(7)), shelf(of), null, api.ErrOver)
		wantSay(t, "stairs down to null", stairs(api.XMod, 49, at, field("a", "n"), num(0)), shelf(of), null, api.OK)
		wantSay(t, "stairs of equals", stairs(api.XEq, 49, at, field("a", "b"), fixed(no)), shelf(of), no, api.OK)
		wantSay(t, "stairs of equals of unlike", stairs(api.XEq, 49, at, field("a", "x"), fixed(no)), shelf(of), no, api.OK)
	}
	wantSay(t, "stairs of differences", stairs(api.XSub, 49, 0, num(100), num(1)), shelf(of), number(51), api.OK)
	wantSay(t, "stairs of differences", stairs(api.XSub, 49, 1, num(100), num(1)), shelf(of), number(-99), api.OK)
	x := op(api.XLt, field("b", "x"), op(api.XMod, field("a", "x"), num(4)))
	for i := range 20 {
		x = op(more[i%2], x, field([]string{"a", "b"}[i%2], "b"))
	}
	wantSay(t, "rows in rows", x, shelf(of), yes, api.OK)
	wantSay(t, "not rows in rows", not(x), shelf(of), no, api.OK)
}

// P11.2

func TestHolds(t *testing.T) {
	look := shelf(goods())
	for _, x := range []api.Expr{fixed(yes), field("a", "b"), not(field("b", "b")), op(api.XEq, field("a", "x"), num(7)), op(api.XNe, field("a", "x"), fixed(null)), op(api.XLt, field("a", "k"), field("b", "k")), op(api.XAnd, field("a", "b"), not(fixed(null))), op(api.XOr, fixed(null), field("a", "b"))} {
		if !eval.Holds(x, look) {
			t.Errorf("%s does not hold", short(x))
		}
		if eval.Holds(not(x), look) {
			t.Errorf("not %s holds", short(x))
		}
		if eval.Holds(x, nil) {
			t.Errorf("%s holds of no look", short(x))
		}
	}
	for _, v := range rightValues() {
		if got := eval.Holds(fixed(v), look); got != (v == yes) {
			t.Errorf("Holds of %v: %v", v, got)
		}
		if got := eval.Holds(field("a", "x"), always(v, true)); got != (v == yes) {
			t.Errorf("Holds of a field that is %v: %v", v, got)
		}
		if eval.Holds(field("a", "x"), always(v, false)) {
			t.Errorf("what is none holds, with %v", v)
		}
	}
	for _, x := range slices.Concat(notRight(), []api.Expr{op(api.XAdd, num(0), num(1)), op(api.XNeg, num(-1)), op(api.XAdd, num(1), fixed(null)), field("z", "b"), field("w", "w10")}) {
		if eval.Holds(x, look) {
			t.Errorf("%s holds", short(x))
		}
	}
	for e, l := range refused() {
		for _, x := range l {
			if eval.Holds(x, look) || eval.Holds(not(x), look) {
				t.Errorf("%s, that is refused by %d, holds, or its negation", short(x), e)
			}
		}
	}
}

func TestTable(t *testing.T) {
	look := eval.Table([]string{"a", "a", "b", "ab", "a", ""}, []string{"x", "k", "x", "c", "bc", ""}, []api.Value{number(7), text("p"), null, yes, no, number(1)})
	for _, c := range []struct {
		v, f string
		want api.Value
	}{{"a", "x", number(7)}, {"a", "k", text("p")}, {"b", "x", null}, {"ab", "c", yes}, {"a", "bc", no}, {"", "", number(1)}} {
		wantTold(t, "the table", look, c.v, c.f, c.want, true)
		wantTold(t, "the table, again", look, c.v, c.f, c.want, true)
	}
	for _, c := range [][2]string{{"x", "a"}, {"b", "k"}, {"a", ""}, {"", "x"}, {"c", "x"}, {"A", "x"}, {"a ", "x"}, {"ab", "x"}, {"abc", ""}, {"", "abc"}, {"a\x00", "x"}} {
		wantTold(t, "the table", look, c[0], c[1], null, false)
	}
}

func TestTableOfNothing(t *testing.T) {
	one, v := []string{"a"}, []api.Value{yes}
	for i, look := range []look{
		eval.Table(nil, nil, nil), eval.Table([]string{}, []string{}, []api.Value{}), eval.Table(one, one, nil), eval.Table(one, nil, v), eval.Table(nil, one, v), eval.Table(nil, nil, v), eval.Table(one, nil, nil), eval.Table(nil, one, nil), eval.Table(one, one, []api.Value{}),
	} {
		if look == nil {
			t.Fatalf("no look %d", i)
		}
		wantTold(t, "no place", look, "a", "a", null, false)
		wantTold(t, "no place", look, "", "", null, false)
		wantSay(t, "a field", field("a", "a"), look, null, api.ErrNone)
		wantSay(t, "no field", op(api.XEq, num(1), num(1)), look, yes, api.OK)
	}
}

func TestTableOfOnePlaceTwice(t *testing.T) {
	for i, c := range []struct {
		vars, fields []string
		l            []api.Value
		want         api.Value
		ok           bool
	}{
		{[]string{"a", "a"}, []string{"x", "x"}, []api.Value{number(1), number(2)}, number(1), true},
		{[]string{"a", "a"}, []string{"x", "x"}, []api.Value{null, number(2)}, null, true},
		{[]string{"a", "a"}, []string{"x", "x"}, []api.Value{{K: 9}, number(2)}, api.Value{K: 9}, true},
		{[]string{"a", "a", "a"}, []string{"x", "x", "x"}, []api.Value{number(3), number(2), number(1)}, number(3), true},
		{[]string{"a", "a", "b", "a"}, []string{"y", "x", "x", "x"}, []api.Value{number(1), number(2), number(3), number(4)}, number(2), true},
		{[]string{"a", "b", "a"}, []string{"x", "x", "x"}, []api.Value{number(1)}, number(1), true},
		{[]string{"b", "a", "a"}, []string{"x", "x", "x"}, []api.Value{number(1)}, null, false},
		{[]string{"b", "a", "a"}, []string{"x", "x", "x"}, []api.Value{number(1), number(2)}, number(2), true},
	} {
		wantTold(t, fmt.Sprint("table ", i), eval.Table(c.vars, c.fields, c.l), "a", "x", c.want, c.ok)
	}
}

// TestTableOfUnlikeLists has each length of each list.
func TestTableOfUnlikeLists(t *testing.T) {
	vars, fields, l := []string{"a", "b", "c", "d"}, []string{"w", "x", "y", "z"}, []api.Value{number(1), text("p"), yes, number(4)}
	for i := range 5 {
		for j := range 5 {
			for k := range 5 {
				look := eval.Table(vars[:i], fields[:j], l[:k])
				for at := range 4 {
					want, ok := null, at < min(i, j, k)
					if ok {
						want = l[at]
					}
					wantTold(t, fmt.Sprint("a table of ", i, j, k), look, vars[at], fields[at], want, ok)
				}
			}
		}
	}
}

func TestTableKeepsNothingThatIsHandedIn(t *testing.T) {
	vars, fields, l := []string{"a", "b", "a"}, []string{"x", "x", "k"}, []api.Value{number(7), yes, text("p")}
	was := fmt.Sprint(vars, fields, l)
	look := eval.Table(vars, fields, l)
	other := eval.Table(vars[1:], fields[1:], l[:2])
	wantTold(t, "the table", look, "a", "x", number(7), true)
	if fmt.Sprint(vars, fields, l) != was {
		t.Error("what came in is changed")
	}
	for i := range l {
		vars[i], fields[i], l[i] = "spoilt", "spoilt", no
	}
	for range 2 {
		wantTold(t, "the table", look, "a", "x", number(7), true)
		wantTold(t, "the table", look, "b", "x", yes, true)
		wantTold(t, "the table", look, "a", "k", text("p"), true)
		wantTold(t, "the table", look, "spoilt", "spoilt", null, false)
		wantTold(t, "the other", other, "b", "x", number(7), true)
		wantTold(t, "the other", other, "a", "k", yes, true)
		wantTold(t, "the other", other, "a", "x", null, false)
	}
}

func TestTableOfMany(t *testing.T) {
	var vars, fields []string
	var l []api.Value
	for i := range 1 << 14 {
		vars, fields, l = append(vars, fmt.Sprint("v", i%128)), append(fields, fmt.Sprint("f", i/128%64)), append(l, number(int64(i)))
	}
	look := eval.Table(vars, fields, l)
	for i := range vars {
		wantTold(t, "a great table", look, vars[i], fields[i], number(int64(i%(1<<13))), true)
	}
	wantTold(t, "a great table", look, "v128", "f0", null, false)
	wantTold(t, "a great table", look, "v0", "f64", null, false)
}

// What a Table tells is asked by Say whether it is right.
func TestSayOfATable(t *testing.T) {
	var vars, fields []string
	var l []api.Value
	for i, v := range slices.Concat(rightValues(), wrongValues()) {
		vars, fields, l = append(vars, "a"), append(fields, fmt.Sprint("f", i)), append(l, v)
	}
	look := eval.Table(vars, fields, l)
	for i, v := range l {
		wantTold(t, "the table", look, "a", fields[i], v, true)
		if i < len(rightValues()) {
			wantSay(t, "a right one", field("a", fields[i]), look, v, api.OK)
		} else {
			wantSay(t, "one that is not right", field("a", fields[i]), look, null, api.ErrArg)
		}
	}
	wantSay(t, "none", field("b", "f0"), look, null, api.ErrNone)
}

// P11.3

func TestWhatOverflowsDoesNotHold(t *testing.T) {
	look := shelf(goods())
	wantNeither := func(x api.Expr) {
		t.Helper()
		if _, e := eval.Say(x, look); e != api.ErrOver {
			t.Errorf("%s is not told to overflow: %d", short(x), e)
		}
		for _, y := range []api.Expr{x, not(x), not(not(x)), not(not(not(x)))} {
			if eval.Holds(y, look) {
				t.Errorf("%s holds", short(y))
			}
		}
	}
	for _, x := range refused()[api.ErrOver] {
		wantNeither(x)
		for _, y := range around(x) {
			wantNeither(y)
			for _, c := range []api.Expr{op(api.XEq, y, y), op(api.XNe, y, fixed(null)), op(api.XEq, y, fixed(null)), op(api.XEq, fixed(no), y)} {
				wantNeither(c)
			}
		}
	}
	for _, x := range refused()[api.ErrOver] {
		for _, o := range orders {
			wantNeither(op(o, x, num(0)))
			wantNeither(op(o, num(0), x))
			wantNeither(op(o, x, fixed(null)))
		}
	}
}

// P10.4

// shop is a book whose types have fields of each kind; names are what its Vars are of.
func shop() []api.Schema {
	return []api.Schema{
		{Name: "buy", Fields: []api.Field{{Name: "x", K: api.VInt}, {Name: "k", K: api.VText}, {Name: "b", K: api.VBool}}},
		{Name: "sell", Fields: []api.Field{{Name: "b", K: api.VText}, {Name: "x", K: api.VBool}, {Name: "k", K: api.VInt}, {Name: "y", K: api.VInt}}},
	}
}

func shopNames(t *testing.T) *typing.Names {
	t.Helper()
	n, e := typing.New(shop(), []string{"a", "b", "c"}, []string{"buy", "sell", "buy"})
	if e != api.OK {
		t.Fatalf("New: %d", e)
	}
	return n
}

// leaves has, by kind, constants and fields of it.
func leaves(k int) []api.Expr {
	var l []api.Expr
	for _, v := range rightValues() {
		if v.K == k {
			l = append(l, fixed(v))
		}
	}
	switch k {
	case api.VBool:
		l = append(l, field("a", "b"), field("b", "x"), field("c", "b"))
	case api.VInt:
		l = append(l, field("a", "x"), field("b", "k"), field("b", "y"), field("c", "x"))
	case api.VText:
		l = append(l, field("a", "k"), field("b", "b"), field("c", "k"))
	}
	return l
}

// stock tells of each Var's fields a value by chance that its schema lets be, null now and then.
func stock(r *rand.Rand) map[string]api.Value {
	of := map[string]api.Value{}
	for i, v := range []string{"a", "b", "c"} {
		for _, f := range shop()[i%2].Fields {
			var l []api.Value
			for _, x := range rightValues() {
				if x.K == f.K {
					l = append(l, x)
				}
			}
			of[v+"."+f.Name] = l[r.Intn(len(l))]
			if r.Intn(4) == 0 {
				of[v+"."+f.Name] = null
			}
		}
	}
	return of
}

// tame is of that kind, if nothing goes wrong, which is by chance, one in so many times.
func tame(r *rand.Rand, deep, kind, but, wrong int) api.Expr {
	if wrong > 0 && r.Intn(wrong) == 0 {
		kind = r.Intn(4)
		if l := []api.Expr{field("z", "x"), field("a", "z"), field("w", "w0"), field("w", "w7")}; r.Intn(3) == 0 {
			return l[r.Intn(len(l))]
		}
	}
	ks := []int{api.XConst, api.XNot, api.XAnd, api.XOr, api.XEq, api.XNe, api.XLt, api.XLe, api.XGt, api.XGe}
	if kind == api.VInt {
		ks = []int{api.XConst, api.XNeg, api.XAdd, api.XSub, api.XMul, api.XDiv, api.XMod}
	}
	k := ks[r.Intn(len(ks))]
	if deep <= 1 || kind == api.VText || kind == api.VNull || k == but || k == api.XConst {
		l := leaves(kind)
		return l[r.Intn(len(l))]
	}
	n, in := 2, kind
	switch {
	case k == api.XNeg || k == api.XNot:
		n = 1
	case k >= api.XAnd:
		n = 2 + r.Intn(3)
	case slices.Contains(equals, k):
		in = r.Intn(4)
	case slices.Contains(orders, k):
		in = api.VInt + r.Intn(2)
	}
	x := api.Expr{K: k}
	for range n {
		x.L = append(x.L, tame(r, deep-1, in, k*(k/api.XAnd), wrong))
	}
	return x
}

// wantKindSaid tells the kind of x, if it may be, and of what kind it was said.
func wantKindSaid(t *testing.T, n *typing.Names, x api.Expr, look look) string {
	t.Helper()
	k, e := n.Kind(x)
	if e != api.OK {
		return ""
	}
	v, e := eval.Say(x, look)
	switch {
	case e == api.ErrOver && v == null:
		return fmt.Sprint(k, " over")
	case e != api.OK:
		t.Errorf("%s, of kind %d, is refused: %d", short(x), k, e)
	case v.K != k && v.K != api.VNull:
		t.Errorf("%s, of kind %d, says %s", short(x), k, short(v))
	}
	if n.Cond(x) == api.OK && e == api.OK && v != yes && v != no && v != null {
		t.Errorf("the condition %s says %s", short(x), short(v))
	}
	return fmt.Sprint(k, " ", v.K)
}

// TestKindIsWhatIsSaid has each kind of condition of parts of all kinds, with fields that are null and that are not.
func TestKindIsWhatIsSaid(t *testing.T) {
	n, r := shopNames(t), rand.New(rand.NewSource(104))
	var all []api.Expr
	for k := api.VNull; k <= api.VText; k++ {
		all = append(all, leaves(k)...)
	}
	all = append(all, op(api.XNeg, field("a", "x")), op(api.XAdd, field("a", "x"), field("b", "k")), op(api.XLt, field("a", "k"), field("b", "b")), not(field("a", "b")))
	seen := map[string]int{}
	for range 4 {
		look := shelf(stock(r))
		for _, a := range all {
			seen[wantKindSaid(t, n, a, look)]++
			for _, k := range []int{api.XNeg, api.XNot} {
				seen[wantKindSaid(t, n, op(k, a), look)]++
			}
			for _, b := range all {
				for _, k := range slices.Concat(two, more) {
					seen[wantKindSaid(t, n, op(k, a, b), look)]++
				}
			}
		}
	}
	for _, what := range []string{"", "0 0", "1 0", "1 1", "2 0", "2 2", "2 over", "3 0", "3 3"} {
		if seen[what] == 0 {
			t.Errorf("nothing was %q", what)
		}
	}
}

func TestKindIsWhatIsSaidAtRandom(t *testing.T) {
	n, r := shopNames(t), rand.New(rand.NewSource(105))
	seen := map[string]int{}
	for i := range 40000 {
		x := tame(r, 1+i%6, i/6%4, 0, 200)
		seen[wantKindSaid(t, n, x, shelf(stock(r)))]++
	}
	for what, least := range map[string]int{"": 500, "0 0": 1000, "1 0": 100, "1 1": 5000, "1 over": 500, "2 0": 1000, "2 2": 1000, "2 over": 1000, "3 0": 500, "3 3": 1000} {
		if seen[what] < least {
			t.Errorf("only %d of %q", seen[what], what)
		}
	}
}

// All of it against the model.

func TestSayAsTheWordsSay(t *testing.T) {
	r := rand.New(rand.NewSource(11))
	seen := map[string]int{}
	for i := range 60000 {
		x, of := tame(r, 1+i%6, i/6%4, 0, 30), stock(r)
		of["w.w0"], of["w.w7"] = wrongValues()[0], wrongValues()[7]
		var vars, fields []string
		var l []api.Value
		for at, v := range of {
			name, f, _ := strings.Cut(at, ".")
			vars, fields, l = append(vars, name), append(fields, f), append(l, v)
		}
		if len(inRow(x)) > api.MaxExpr {
			wantSay(t, "too many", x, shelf(of), null, api.ErrArg)
			continue
		}
		v, e := modelSay(of, x)
		wantSay(t, "one at random", x, shelf(of), v, e)
		wantSay(t, "one at random, by a table", x, eval.Table(vars, fields, l), v, e)
		if e == api.ErrOver && (eval.Holds(x, shelf(of)) || eval.Holds(not(x), shelf(of))) {
			t.Errorf("%s overflows and holds, or its negation", short(x))
		}
		seen[fmt.Sprint(v.K, " ", e)]++
	}
	for _, what := range []string{"0 0", "1 0", "2 0", "3 0", "0 1", "0 5", "0 6", "0 10"} {
		if seen[what] < 500 {
			t.Errorf("only %d of %s", seen[what], what)
		}
	}
}

// What is said hangs on nothing that was said ahead of it.
func TestSayAgain(t *testing.T) {
	look := shelf(goods())
	x := op(api.XGt, field("a", "x"), field("b", "x"))
	for range 3 {
		wantSay(t, "right", x, look, yes, api.OK)
		wantSay(t, "turned", op(api.XGt, x.L[1], x.L[0]), look, no, api.OK)
		wantSay(t, "none", field("z", "x"), look, null, api.ErrNone)
		wantSay(t, "of another look", x, always(number(1), true), no, api.OK)
		wantSay(t, "over", op(api.XDiv, field("a", "x"), num(0)), look, null, api.ErrOver)
	}
}

func FuzzSay(f *testing.F) {
	f.Add([]byte{11, 4, 2, 0, 0, 1, 2, 1, 2})
	f.Add([]byte{16, 15, 2, 0, 2, 17, 1, 1, 1, 0})
	f.Add([]byte{14, 8, 1, 3, 1, 6, 2, 2, 1})
	of := goods()
	f.Fuzz(func(t *testing.T, b []byte) {
		take := func() int {
			if len(b) == 0 {
				return 1
			}
			c := b[0]
			b = b[1:]
			return int(c)
		}
		var read func(deep, but int) api.Expr
		read = func(deep, but int) api.Expr {
			k := 1 + (take()+allKinds-1)%allKinds
			if deep == 0 || k == but {
				k = api.XConst
			}
			size := 2
			switch {
			case k == api.XConst:
				return fixed(rightValues()[take()%len(rightValues())])
			case k == api.XField:
				v, g := take()%5, take()%8
				return field([]string{"a", "b", "c", "w", "z"}[v], []string{"x", "k", "b", "n", "most", "least", "w0", "w10"}[g])
			case k == api.XNeg || k == api.XNot:
				size = 1
			case k >= api.XAnd:
				size = 2 + take()%3
			}
			x := api.Expr{K: k}
			for range size {
				x.L = append(x.L, read(deep-1, k*(k/api.XAnd)))
			}
			return x
		}
		x := read(12, 0)
		if len(inRow(x)) > api.MaxExpr {
			wantSay(t, "too many", x, shelf(of), null, api.ErrArg)
			return
		}
		v, e := modelSay(of, x)
		wantSay(t, "one from bytes", x, shelf(of), v, e)
	})
}
