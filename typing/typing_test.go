package typing_test

import (
	"fmt"
	"math"
	"math/rand"
	"slices"
	"strings"
	"testing"

	"haruspex/api"
	"haruspex/typing"
)

const allKinds = api.XOr

var (
	null    = fixed(api.Value{})
	yes     = fixed(api.Value{K: api.VBool, N: 1})
	most    = strings.Repeat("n", api.MaxName)
	reckons = []int{api.XAdd, api.XSub, api.XMul, api.XDiv, api.XMod}
	equals  = []int{api.XEq, api.XNe}
	orders  = []int{api.XLt, api.XLe, api.XGt, api.XGe}
	more    = []int{api.XAnd, api.XOr}
	two     = slices.Concat(reckons, equals, orders)
)

func fixed(v api.Value) api.Expr { return api.Expr{K: api.XConst, V: v} }

func num(n int64) api.Expr { return fixed(api.Value{K: api.VInt, N: n}) }

func text(s string) api.Expr { return fixed(api.Value{K: api.VText, S: s}) }

func field(v, f string) api.Expr { return api.Expr{K: api.XField, Var: v, Field: f} }

func op(k int, l ...api.Expr) api.Expr { return api.Expr{K: k, L: l} }

func not(x api.Expr) api.Expr { return op(api.XNot, x) }

func made(name string, l ...api.Field) api.Schema { return api.Schema{Name: name, Fields: l} }

func has(name string, k int) api.Field { return api.Field{Name: name, K: k} }

func many(n int) []api.Field {
	var l []api.Field
	for i := range n {
		l = append(l, has(fmt.Sprintf("f%d", i), 1+i%3))
	}
	return l
}

// shop is a book in which fields of one name are of unlike kinds, so that it tells whose they are.
func shop() []api.Schema {
	return []api.Schema{
		made("none"),
		made("buy", has("x", api.VInt), has("k", api.VText), has("b", api.VBool)),
		made("sell", has("k", api.VInt), has("b", api.VText), has("x", api.VBool), has("only", api.VInt)),
		made("most", many(api.MaxFields)...),
	}
}

func fullBook() []api.Schema {
	var l []api.Schema
	for i := range api.MaxSchemas {
		l = append(l, made(fmt.Sprintf("s%d", i), many(i+1)...))
	}
	return l
}

// noBooks are lists that schema.Book refuses, by each of its errors; all of them have a right schema buy.
func noBooks() [][]api.Schema {
	buy := shop()[1]
	l := [][]api.Schema{
		append(fullBook(), buy), slices.Repeat([]api.Schema{buy}, api.MaxSchemas+1), append([]api.Schema{buy}, make([]api.Schema, 1<<10)...),
		{buy, buy}, {buy, made("buy")}, {made("a"), buy, made("a")}, append(shop(), buy),
	}
	for _, s := range []api.Schema{{}, made("A"), made("1"), made(most + "n"), made("a", has("", api.VInt)), made("a", has("X", api.VInt)), made("a", has("x", api.VNull)), made("a", has("x", 4)), made("a", has("x", -1)), made("a", has("x", api.VInt), has("x", api.VText)), made("a", many(api.MaxFields+1)...)} {
		l = append(l, []api.Schema{s, buy}, []api.Schema{buy, s}, append(shop(), s))
	}
	return l
}

// shopVars and shopTypes go with shop; a is there twice, with two types, and c with one.
func shopVars() []string { return []string{"a", "b", "a", "c", "c", "m", "o", most} }

func shopTypes() []string {
	return []string{"buy", "sell", "sell", "buy", "buy", "most", "none", "buy"}
}

func shopNames(t testing.TB) *typing.Names {
	t.Helper()
	return wantNames(t, shop(), shopVars(), shopTypes())
}

func wantNames(t testing.TB, l []api.Schema, vars, types []string) *typing.Names {
	t.Helper()
	n, e := typing.New(l, vars, types)
	if n == nil || e != api.OK {
		t.Fatalf("New of %v, %v: %v, %d", short(vars), short(types), n, e)
	}
	return n
}

func wantRefused(t *testing.T, what string, l []api.Schema, vars, types []string, want api.Errno) {
	t.Helper()
	was := fmt.Sprint(l, vars, types)
	if n, e := typing.New(l, vars, types); n != nil || e != want {
		t.Errorf("New of %s: %v, %d, want %d", what, n, e, want)
	}
	if fmt.Sprint(l, vars, types) != was {
		t.Errorf("New of %s changed what came in", what)
	}
}

func wantType(t *testing.T, n *typing.Names, v, want string, ok bool) {
	t.Helper()
	if s, is := n.Type(v); s != want || is != ok {
		t.Errorf("Type of %q: %q, %v, want %q, %v", v, s, is, want, ok)
	}
}

func short(l any) string { return fmt.Sprintf("%.200s", fmt.Sprintf("%+v", l)) }

// wantKind asks Kind and, as it hangs on that, Cond.
func wantKind(t *testing.T, n *typing.Names, what string, x api.Expr, kind int, want api.Errno) {
	t.Helper()
	was := said(x)
	if k, e := n.Kind(x); k != kind || e != want {
		t.Errorf("Kind of %s, %s: %d, %d, want %d, %d", what, short(x), k, e, kind, want)
	}
	if want == api.OK && kind != api.VBool {
		want = api.ErrType
	}
	if e := n.Cond(x); e != want {
		t.Errorf("Cond of %s, %s: %d, want %d", what, short(x), e, want)
	}
	if said(x) != was {
		t.Errorf("%s is changed", what)
	}
}

// said tells all fields of all nodes.
func said(x api.Expr) string {
	var b strings.Builder
	var tell func(x api.Expr)
	tell = func(x api.Expr) {
		fmt.Fprintf(&b, "(%d %v %q %q %d", x.K, x.V, x.Var, x.Field, len(x.L))
		for _, p := range x.L {
			tell(p)
		}
		b.WriteByte(')')
	}
	tell(x)
	return b.String()
}

// A model of the chapter's words, by other means: the nodes in a row, parts ahead of what they are parts of, and a heap of kinds.

// fits is each row of parts' kinds that may be, of conditions with one part or two.
func fits() map[string]int {
	l := map[string]int{"3:2": 2, "15:1": 1}
	for _, k := range reckons {
		l[fmt.Sprint(k, ":22")] = 2
	}
	for _, k := range equals {
		for _, row := range strings.Fields("00 11 22 33 01 10 02 20 03 30") {
			l[fmt.Sprint(k, ":", row)] = 1
		}
	}
	for _, k := range orders {
		l[fmt.Sprint(k, ":22")] = 1
		l[fmt.Sprint(k, ":33")] = 1
	}
	return l
}

var allFits = fits()

func inRow(x api.Expr) []api.Expr {
	var l []api.Expr
	wait := []api.Expr{x}
	for len(wait) > 0 {
		y := wait[len(wait)-1]
		l = append(l, y)
		wait = append(wait[:len(wait)-1], y.L...)
	}
	slices.Reverse(l)
	return l
}

// modelKind takes what each Var has as "Var.field", and only conditions that are right.
func modelKind(of map[string]int, x api.Expr) (int, api.Errno) {
	var heap []byte
	for _, y := range inRow(x) {
		at := len(heap) - len(y.L)
		row := string(heap[at:])
		heap = heap[:at]
		k, ok := y.V.K, true
		switch {
		case y.K == 2:
			if k, ok = of[y.Var+"."+y.Field]; !ok {
				return 0, 6
			}
		case y.K >= 16:
			k, ok = 1, strings.Trim(row, "1") == ""
		case y.K > 2:
			k, ok = allFits[fmt.Sprint(y.K, ":", row)], allFits[fmt.Sprint(y.K, ":", row)] > 0
		}
		if !ok {
			return 0, 5
		}
		heap = append(heap, '0'+byte(k))
	}
	return int(heap[0] - '0'), 0
}

func modelNames(l []api.Schema, vars, types []string) map[string]int {
	of := map[string]int{}
	for i, v := range vars {
		if slices.Index(vars, v) < i {
			continue
		}
		for _, s := range l {
			for _, f := range s.Fields {
				if s.Name == types[i] {
					of[v+"."+f.Name] = f.K
				}
			}
		}
	}
	return of
}

// leaves has, by kind, constants and fields of it; shopNames knows them.
func leaves(k int) []api.Expr {
	switch k {
	case api.VNull:
		return []api.Expr{null}
	case api.VBool:
		return []api.Expr{yes, fixed(api.Value{K: api.VBool}), field("a", "b"), field("b", "x"), field("m", "f15")}
	case api.VInt:
		return []api.Expr{num(0), num(1), num(math.MaxInt64), num(math.MinInt64), field("a", "x"), field("b", "k"), field("b", "only"), field(most, "x"), field("m", "f1")}
	}
	return []api.Expr{text(""), text("p"), text(strings.Repeat("t", api.MaxText)), field("a", "k"), field("b", "b"), field("c", "k"), field("m", "f14")}
}

func leaf(k int) api.Expr { return leaves(k)[len(leaves(k))/2] }

// nodes has, by kind, conditions of it that have parts; nothing of that kind is null.
func nodes(k int) []api.Expr {
	if k == api.VInt {
		l := []api.Expr{op(api.XNeg, leaf(k))}
		for _, r := range reckons {
			l = append(l, op(r, num(1), leaf(k)))
		}
		return l
	}
	l := []api.Expr{not(yes)}
	for _, e := range equals {
		l = append(l, op(e, leaf(api.VText), null))
	}
	for _, o := range orders {
		l = append(l, op(o, leaf(api.VText), text("")))
	}
	for _, m := range more {
		l = append(l, op(m, yes, leaf(api.VBool)))
	}
	return l
}

// unknown are right fields of which shopNames has no kind.
func unknown() []api.Expr {
	return []api.Expr{field("z", "x"), field("buy", "x"), field("aa", "x"), field("n", "x"), field("a", "z"), field("a", "only"), field("c", "only"), field("a", "buy"), field("a", "a"), field("o", "x"), field("m", "f16"), field("m", "x"), field("b", "onl"), field("b", "only_")}
}

// mistyped are conditions of which just the node itself is wrong; all its parts may be.
func mistyped() map[string]api.Expr {
	l := map[string]api.Expr{}
	for k := api.VNull; k <= api.VText; k++ {
		x := leaf(k)
		if k != api.VInt {
			l[fmt.Sprint("neg of ", k)] = op(api.XNeg, x)
		}
		if k != api.VBool {
			l[fmt.Sprint("not of ", k)] = not(x)
		}
		for other := api.VNull; other <= api.VText; other++ {
			y := leaves(other)[0]
			for _, r := range reckons {
				if k != api.VInt || other != api.VInt {
					l[fmt.Sprint(r, " of ", k, other)] = op(r, x, y)
				}
			}
			for _, e := range equals {
				if k != other && k != api.VNull && other != api.VNull {
					l[fmt.Sprint(e, " of ", k, other)] = op(e, x, y)
				}
			}
			for _, o := range orders {
				if k != other || k == api.VNull || k == api.VBool {
					l[fmt.Sprint(o, " of ", k, other)] = op(o, x, y)
				}
			}
			for _, m := range more {
				if k != api.VBool || other != api.VBool {
					l[fmt.Sprint(m, " of ", k, other)] = op(m, x, y)
					l[fmt.Sprint(m, " of ", k, other, " behind others")] = op(m, yes, yes, x, yes, y)
				}
			}
		}
	}
	return l
}

// notRight are conditions that expr.Check refuses; many of their names are not there, and many of their kinds wrong.
func notRight() []api.Expr {
	a, z := field("a", "x"), field("z", "z")
	l := []api.Expr{
		{}, {K: -1}, {K: allKinds + 1}, {K: math.MaxInt}, {K: math.MinInt}, {K: api.XConst, Var: "z"}, {K: api.XField, Var: "a", Field: "x", V: api.Value{K: api.VInt}}, {K: api.XField, Var: "z", Field: "z", L: []api.Expr{a}}, {K: api.XConst, L: []api.Expr{z}},
		field("", "x"), field("A", "x"), field("a", ""), field("a", "X"), field(most+"n", "x"), field("z", "Z"), field("é", "x"),
		fixed(api.Value{N: 1}), fixed(api.Value{K: 4}), fixed(api.Value{K: -1}), fixed(api.Value{K: api.VBool, N: 2}), fixed(api.Value{K: api.VInt, S: "x"}), fixed(api.Value{K: api.VText, N: 1}), text(strings.Repeat("t", api.MaxText+1)),
		op(api.XNeg), op(api.XNeg, a, a), op(api.XNeg, z, z), op(api.XNot), op(api.XNot, yes, yes),
		op(api.XAnd), op(api.XAnd, yes), op(api.XOr, z), op(api.XAnd, z, op(api.XAnd, yes, yes)), op(api.XOr, op(api.XOr, yes, yes), a),
		op(api.XAnd, slices.Repeat([]api.Expr{yes}, api.MaxExpr)...), op(api.XAnd, slices.Repeat([]api.Expr{z}, api.MaxExpr)...), op(api.XOr, make([]api.Expr, 1<<12)...), chain(api.XNot, api.MaxExpr+1, yes), chain(api.XNeg, api.MaxExpr+1, z), chain(api.XNot, 1<<16, yes),
	}
	for _, k := range two {
		l = append(l, op(k), op(k, a), op(k, a, a, a), op(k, z, z, z), op(k, a, api.Expr{}), op(k, z, api.Expr{}), op(k, api.Expr{}, z), api.Expr{K: k, Var: "a", L: []api.Expr{a, a}})
	}
	return l
}

// chain has n nodes, one below the other, down to leaf.
func chain(k, n int, leaf api.Expr) api.Expr {
	for range n - 1 {
		leaf = op(k, leaf)
	}
	return leaf
}

// around sets x at each place of conditions that are right and of which nothing else is wrong, but for kinds that hang on x.
func around(x api.Expr) []api.Expr {
	l := []api.Expr{op(api.XNeg, x), not(x), not(not(not(x))), op(api.XNeg, op(api.XNeg, x))}
	for _, k := range two {
		for p := api.VNull; p <= api.VText; p++ {
			l = append(l, op(k, x, leaf(p)), op(k, leaf(p), x))
		}
	}
	for _, k := range more {
		if x.K != k {
			l = append(l, op(k, x, yes), op(k, yes, x), op(k, yes, x, yes), op(k, yes, not(op(k, yes, x))))
		}
	}
	return l
}

// P10.1

func TestNewOfNothing(t *testing.T) {
	for i, n := range []*typing.Names{wantNames(t, nil, nil, nil), wantNames(t, []api.Schema{}, []string{}, []string{}), wantNames(t, shop(), nil, []string{}), wantNames(t, fullBook(), []string{}, nil)} {
		for _, v := range []string{"", "a", "buy", most} {
			wantType(t, n, v, "", false)
		}
		what := fmt.Sprint("no names ", i)
		wantKind(t, n, what, field("a", "x"), 0, api.ErrNone)
		wantKind(t, n, what, null, api.VNull, api.OK)
		wantKind(t, n, what, op(api.XLt, num(1), num(2)), api.VBool, api.OK)
		wantKind(t, n, what, op(api.XLt, num(1), yes), 0, api.ErrType)
		wantKind(t, n, what, api.Expr{}, 0, api.ErrArg)
	}
}

func TestType(t *testing.T) {
	n := shopNames(t)
	for v, want := range map[string]string{"a": "buy", "b": "sell", "c": "buy", "m": "most", "o": "none", most: "buy"} {
		wantType(t, n, v, want, true)
	}
	for _, v := range []string{"", "z", "A", "aa", "buy", "sell", "none", "x", "a ", "a\x00", most[1:], most + "n"} {
		wantType(t, n, v, "", false)
	}
}

func TestTypeOfVarsThatAreNoNames(t *testing.T) {
	n := wantNames(t, shop(), []string{"", "A", "\xff", "a b", ""}, []string{"buy", "sell", "none", "most", "sell"})
	for v, want := range map[string]string{"": "buy", "A": "sell", "\xff": "none", "a b": "most"} {
		wantType(t, n, v, want, true)
	}
	wantType(t, n, "a", "", false)
}

func TestFirstOfAVarCounts(t *testing.T) {
	for _, c := range [][2][]string{
		{{"a", "a"}, {"buy", "buy"}}, {{"a", "a"}, {"buy", "sell"}}, {{"a", "b", "a"}, {"buy", "sell", "none"}}, {{"b", "a", "a", "a"}, {"sell", "buy", "none", "sell"}}, {{"b", "b", "a", "b", "a"}, {"sell", "buy", "buy", "none", "sell"}},
	} {
		n := wantNames(t, shop(), c[0], c[1])
		wantType(t, n, "a", "buy", true)
		wantKind(t, n, "the first's", field("a", "x"), api.VInt, api.OK)
		wantKind(t, n, "the second's", field("a", "only"), 0, api.ErrNone)
		if slices.Contains(c[0], "b") {
			wantType(t, n, "b", "sell", true)
			wantKind(t, n, "the other's", field("b", "only"), api.VInt, api.OK)
		}
	}
	n := wantNames(t, shop(), []string{"a", "a"}, []string{"none", "buy"})
	wantType(t, n, "a", "none", true)
	wantKind(t, n, "a field of the second's", field("a", "x"), 0, api.ErrNone)
}

func TestNewAtTheLimits(t *testing.T) {
	l := fullBook()
	var vars, types []string
	for i := range 1 << 16 {
		vars, types = append(vars, fmt.Sprint("v", i)), append(types, fmt.Sprint("s", i%api.MaxSchemas))
	}
	n := wantNames(t, l, vars, types)
	of := modelNames(l, vars[:64], types)
	for i, v := range vars[:64] {
		wantType(t, n, v, types[i], true)
		for f := range api.MaxFields + 2 {
			x := field(v, fmt.Sprint("f", f))
			k, e := modelKind(of, x)
			wantKind(t, n, "a field", x, k, e)
		}
	}
	wantType(t, n, "v65535", "s15", true)
	wantType(t, n, "v65536", "", false)
	wantRefused(t, "many, the last without a schema", l, append(vars, "z"), append(types, "z"), api.ErrNone)
	wantRefused(t, "many, one type more", l, vars, append(types, "z"), api.ErrArg)
}

func TestNewRefusesNoBooks(t *testing.T) {
	for i, l := range noBooks() {
		what := fmt.Sprint("no book ", i)
		wantRefused(t, what, l, nil, nil, api.ErrArg)
		wantRefused(t, what, l, []string{"a"}, []string{"buy"}, api.ErrArg)
		wantRefused(t, what+" and no schema", l, []string{"a"}, []string{"zz"}, api.ErrArg)
		wantRefused(t, what+" and too few types", l, []string{"a"}, nil, api.ErrArg)
		wantRefused(t, what+" and all else", l, []string{"a"}, []string{"zz", "yy"}, api.ErrArg)
	}
}

func TestNewRefusesUnlikeLists(t *testing.T) {
	for _, l := range [][]api.Schema{nil, shop(), fullBook()} {
		for _, c := range [][2][]string{
			{{"a"}, nil}, {nil, {"buy"}}, {{"a", "b"}, {"buy"}}, {{"a"}, {"buy", "sell"}}, {{"a", "a"}, {"buy"}}, {{"a"}, {"buy", "buy"}}, {{}, {"zz"}}, {{"a"}, {"buy", "zz"}}, {{"a"}, {"zz", "buy"}}, {{"a", "b"}, {"zz"}}, {make([]string, 1<<10), make([]string, 1<<10+1)},
		} {
			wantRefused(t, short(c), l, c[0], c[1], api.ErrArg)
		}
	}
}

func TestNewRefusesTypesWithoutASchema(t *testing.T) {
	for _, name := range []string{"", "zz", "Buy", "buy ", "bu", "buyy", "x", "a", "\x00", most + "n"} {
		for _, c := range [][2][]string{
			{{"a"}, {name}}, {{"a", "b"}, {name, "buy"}}, {{"a", "b"}, {"buy", name}}, {{"a", "a"}, {"buy", name}}, {{"a", "a"}, {name, "buy"}}, {{"a", "b", "c"}, {"buy", name, "sell"}}, {{""}, {name}},
		} {
			wantRefused(t, short(c), shop(), c[0], c[1], api.ErrNone)
		}
		wantRefused(t, "no schema at all", nil, []string{"a"}, []string{name}, api.ErrNone)
	}
}

func TestNewKeepsNothingThatIsHandedIn(t *testing.T) {
	l, vars, types := shop(), shopVars(), shopTypes()
	was := fmt.Sprint(l, vars, types)
	n := wantNames(t, l, vars, types)
	again := wantNames(t, l, vars[1:], types[1:])
	if fmt.Sprint(l, vars, types) != was {
		t.Error("New changed what came in")
	}
	for i := range l {
		for j := range l[i].Fields {
			l[i].Fields[j] = has("spoilt", api.VNull)
		}
		l[i] = made("spoilt")
	}
	for i := range vars {
		vars[i], types[i] = "spoilt", "spoilt"
	}
	wantType(t, n, "a", "buy", true)
	wantType(t, n, "spoilt", "", false)
	wantType(t, again, "a", "sell", true)
	of := modelNames(shop(), shopVars(), shopTypes())
	for v := range of {
		name, f, _ := strings.Cut(v, ".")
		wantKind(t, n, v, field(name, f), of[v], api.OK)
	}
	wantKind(t, n, "spoilt", field("a", "spoilt"), 0, api.ErrNone)
	wantKind(t, again, "a of others", field("a", "only"), api.VInt, api.OK)
}

// P10.2

func TestExamples(t *testing.T) {
	n := shopNames(t)
	wantKind(t, n, "the chapter's", op(api.XLt, op(api.XAdd, field("a", "x"), num(1)), num(5)), api.VBool, api.OK)
	wantKind(t, n, "the chapter's, of a text", op(api.XLt, op(api.XAdd, field("a", "k"), num(1)), num(5)), 0, api.ErrType)
	wantKind(t, n, "the document's third", op(api.XGt, op(api.XAdd, num(math.MaxInt64), num(1)), num(0)), api.VBool, api.OK)
	wantKind(t, n, "its negation", not(op(api.XGt, op(api.XAdd, num(math.MaxInt64), num(1)), num(0))), api.VBool, api.OK)
	wantKind(t, n, "the document's sixth", not(op(api.XOr, op(api.XEq, field("a", "x"), num(1)), op(api.XEq, field("b", "k"), num(2)))), api.VBool, api.OK)
}

func TestKindOfLeaves(t *testing.T) {
	n := shopNames(t)
	for k := api.VNull; k <= api.VText; k++ {
		for _, x := range leaves(k) {
			wantKind(t, n, "a leaf", x, k, api.OK)
		}
	}
	for i := range api.MaxFields {
		wantKind(t, n, "one of many fields", field("m", fmt.Sprint("f", i)), 1+i%3, api.OK)
	}
	for _, x := range unknown() {
		wantKind(t, n, "a field that is not there", x, 0, api.ErrNone)
	}
}

// TestKindOfParts has each kind of condition of parts of all kinds, constants, fields and conditions.
func TestKindOfParts(t *testing.T) {
	n := shopNames(t)
	of := modelNames(shop(), shopVars(), shopTypes())
	var all []api.Expr
	for k := api.VNull; k <= api.VText; k++ {
		all = append(all, leaves(k)...)
	}
	all = append(all, nodes(api.VInt)...)
	all = append(all, nodes(api.VBool)...)
	for _, x := range all {
		for _, k := range []int{api.XNeg, api.XNot} {
			y := op(k, x)
			want, e := modelKind(of, y)
			wantKind(t, n, "one part", y, want, e)
		}
		for _, z := range all {
			for _, k := range slices.Concat(two, more) {
				if k >= api.XAnd && (x.K == k || z.K == k) {
					continue
				}
				y := op(k, x, z)
				want, e := modelKind(of, y)
				wantKind(t, n, "two parts", y, want, e)
			}
		}
	}
}

func TestKindLetsBe(t *testing.T) {
	n := shopNames(t)
	for _, x := range slices.Concat(leaves(api.VInt), nodes(api.VInt)) {
		wantKind(t, n, "a number", op(api.XNeg, x), api.VInt, api.OK)
		for _, k := range reckons {
			wantKind(t, n, "numbers", op(k, x, leaf(api.VInt)), api.VInt, api.OK)
			wantKind(t, n, "numbers", op(k, leaf(api.VInt), x), api.VInt, api.OK)
		}
		for _, k := range slices.Concat(equals, orders) {
			wantKind(t, n, "numbers", op(k, x, num(1)), api.VBool, api.OK)
			wantKind(t, n, "numbers", op(k, num(1), x), api.VBool, api.OK)
		}
	}
	for _, x := range leaves(api.VText) {
		for _, k := range slices.Concat(equals, orders) {
			wantKind(t, n, "texts", op(k, x, leaf(api.VText)), api.VBool, api.OK)
			wantKind(t, n, "texts", op(k, leaf(api.VText), x), api.VBool, api.OK)
		}
	}
	for _, k := range equals {
		wantKind(t, n, "two nulls", op(k, null, null), api.VBool, api.OK)
		for p := api.VBool; p <= api.VText; p++ {
			wantKind(t, n, "one null", op(k, leaf(p), null), api.VBool, api.OK)
			wantKind(t, n, "one null", op(k, null, leaf(p)), api.VBool, api.OK)
			wantKind(t, n, "two of one kind", op(k, leaf(p), leaves(p)[0]), api.VBool, api.OK)
		}
	}
	for _, x := range slices.Concat(leaves(api.VBool), nodes(api.VBool)) {
		wantKind(t, n, "a bool", not(x), api.VBool, api.OK)
		for _, k := range more {
			if x.K == k {
				continue
			}
			for size := 2; size <= 6; size++ {
				wantKind(t, n, "bools", op(k, slices.Repeat([]api.Expr{x}, size)...), api.VBool, api.OK)
			}
		}
	}
}

func TestKindOfRows(t *testing.T) {
	n := shopNames(t)
	for _, k := range more {
		wantKind(t, n, "as many as may be", op(k, slices.Repeat([]api.Expr{leaf(api.VBool)}, api.MaxExpr-1)...), api.VBool, api.OK)
		for size := 2; size <= 5; size++ {
			for at := range size {
				for p := api.VNull; p <= api.VText; p++ {
					l := slices.Repeat([]api.Expr{yes}, size)
					l[at] = leaf(p)
					want, e := api.VBool, api.OK
					if p != api.VBool {
						want, e = 0, api.ErrType
					}
					wantKind(t, n, "a row", op(k, l...), want, e)
				}
				l := slices.Repeat([]api.Expr{yes}, size)
				l[at] = field("a", "z")
				wantKind(t, n, "a row with an unknown", op(k, l...), 0, api.ErrNone)
			}
		}
	}
}

func TestKindDeep(t *testing.T) {
	n := shopNames(t)
	for _, size := range []int{2, 3, 50, api.MaxExpr - 1, api.MaxExpr} {
		wantKind(t, n, "nots", chain(api.XNot, size, field("a", "b")), api.VBool, api.OK)
		wantKind(t, n, "negs", chain(api.XNeg, size, field("a", "x")), api.VInt, api.OK)
		wantKind(t, n, "nots of a number", chain(api.XNot, size, field("a", "x")), 0, api.ErrType)
		wantKind(t, n, "negs of a bool", chain(api.XNeg, size, field("a", "b")), 0, api.ErrType)
		wantKind(t, n, "nots of an unknown", chain(api.XNot, size, field("z", "x")), 0, api.ErrNone)
		wantKind(t, n, "negs of an unknown", chain(api.XNeg, size, field("a", "z")), 0, api.ErrNone)
	}
	for _, k := range reckons {
		for at := range 2 {
			x, bad, none := leaf(api.VInt), leaf(api.VText), field("a", "z")
			for range 49 {
				l, m, o := []api.Expr{num(1), num(1)}, []api.Expr{num(1), num(1)}, []api.Expr{num(1), num(1)}
				l[at], m[at], o[at] = x, bad, none
				x, bad, none = op(k, l...), op(k, m...), op(k, o...)
			}
			wantKind(t, n, "stairs", x, api.VInt, api.OK)
			wantKind(t, n, "stairs down to a text", bad, 0, api.ErrType)
			wantKind(t, n, "stairs down to an unknown", none, 0, api.ErrNone)
		}
	}
	x := op(api.XLt, op(api.XNeg, field("b", "k")), op(api.XMod, num(7), field("a", "x")))
	for i := range 20 {
		x = op(more[i%2], x, not(field("a", "b")))
	}
	wantKind(t, n, "rows in rows", x, api.VBool, api.OK)
	wantKind(t, n, "a neg of rows in rows", op(api.XNeg, x), 0, api.ErrType)
}

func TestKindRefusesParts(t *testing.T) {
	n := shopNames(t)
	for what, x := range mistyped() {
		wantKind(t, n, what, x, 0, api.ErrType)
		for i, y := range around(x) {
			wantKind(t, n, fmt.Sprint(what, " in ", i), y, 0, api.ErrType)
		}
	}
	for _, x := range unknown() {
		for i, y := range around(x) {
			wantKind(t, n, fmt.Sprint("an unknown in ", i), y, 0, api.ErrNone)
		}
	}
}

// TestFirstPartWins has two parts that are wrong, each in its own way, and below a condition that is wrong itself.
func TestFirstPartWins(t *testing.T) {
	n := shopNames(t)
	none := slices.Concat(unknown(), []api.Expr{op(api.XNeg, field("z", "x")), op(api.XEq, yes, not(field("a", "z"))), op(api.XEq, field("a", "z"), not(num(1)))})
	wrong := []api.Expr{op(api.XNeg, null), not(num(1)), op(api.XAdd, num(1), text("")), op(api.XEq, num(1), text("")), op(api.XLt, yes, yes), op(api.XLt, not(num(1)), field("a", "z"))}
	for _, a := range none {
		for _, b := range wrong {
			for _, k := range slices.Concat(two, more) {
				wantKind(t, n, "none, wrong", op(k, a, b), 0, api.ErrNone)
				wantKind(t, n, "wrong, none", op(k, b, a), 0, api.ErrType)
				wantKind(t, n, "none, wrong, deeper", op(k, op(api.XNeg, op(api.XNeg, a)), b), 0, api.ErrNone)
				wantKind(t, n, "wrong, none, deeper", op(k, not(not(not(b))), a), 0, api.ErrType)
			}
			for _, k := range more {
				wantKind(t, n, "none behind right ones", op(k, yes, yes, a, b), 0, api.ErrNone)
				wantKind(t, n, "wrong behind right ones", op(k, yes, yes, b, a), 0, api.ErrType)
				wantKind(t, n, "none behind one of a wrong kind", op(k, num(1), a), 0, api.ErrNone)
				wantKind(t, n, "none behind many of a wrong kind", op(k, num(1), null, text("x"), a, b), 0, api.ErrNone)
			}
		}
		for _, k := range two {
			for p := api.VNull; p <= api.VText; p++ {
				wantKind(t, n, "none behind any kind", op(k, leaf(p), a), 0, api.ErrNone)
			}
		}
		wantKind(t, n, "none below one that can't be right", op(api.XNeg, not(a)), 0, api.ErrNone)
		wantKind(t, n, "none below one that can't be right", op(api.XNeg, op(api.XEq, a, null)), 0, api.ErrNone)
		wantKind(t, n, "none below one that can't be right", not(op(api.XAdd, null, a)), 0, api.ErrNone)
		wantKind(t, n, "none below one that can't be right", op(api.XAnd, op(api.XLt, yes, a), field("z", "z")), 0, api.ErrNone)
	}
}

func TestKindRefusesWhatIsNotRight(t *testing.T) {
	for _, n := range []*typing.Names{shopNames(t), wantNames(t, nil, nil, nil)} {
		for i, x := range notRight() {
			wantKind(t, n, fmt.Sprint("not right ", i), x, 0, api.ErrArg)
			wantKind(t, n, fmt.Sprint("below, behind an unknown ", i), op(api.XEq, field("z", "z"), x), 0, api.ErrArg)
			wantKind(t, n, fmt.Sprint("below, behind a wrong one ", i), op(api.XAdd, op(api.XNeg, null), x), 0, api.ErrArg)
			wantKind(t, n, fmt.Sprint("below, ahead of an unknown ", i), op(api.XLt, x, field("a", "z")), 0, api.ErrArg)
		}
	}
}

func TestCond(t *testing.T) {
	n := shopNames(t)
	for _, x := range slices.Concat(leaves(api.VBool), nodes(api.VBool)) {
		if e := n.Cond(x); e != api.OK {
			t.Errorf("Cond of %s: %d", short(x), e)
		}
	}
	for _, x := range slices.Concat(leaves(api.VNull), leaves(api.VInt), leaves(api.VText), nodes(api.VInt)) {
		if e := n.Cond(x); e != api.ErrType {
			t.Errorf("Cond of %s: %d", short(x), e)
		}
	}
	for _, x := range unknown() {
		if e := n.Cond(op(api.XNeg, x)); e != api.ErrNone {
			t.Errorf("Cond of %s: %d", short(x), e)
		}
	}
	for _, x := range notRight() {
		if e := n.Cond(x); e != api.ErrArg {
			t.Errorf("Cond of %s: %d", short(x), e)
		}
	}
}

// tame is right if it is not too big; it is of that kind if nothing goes wrong, which is seldom and by chance.
func tame(r *rand.Rand, deep, kind, but int) api.Expr {
	if r.Intn(40) == 0 {
		return unknown()[r.Intn(len(unknown()))]
	}
	if r.Intn(40) == 0 {
		kind = r.Intn(4)
	}
	ks := []int{api.XConst, api.XNot, api.XAnd, api.XOr, api.XEq, api.XNe, api.XLt, api.XLe, api.XGt, api.XGe}
	if kind == api.VInt {
		ks = []int{api.XConst, api.XNeg, api.XAdd, api.XSub, api.XMul, api.XDiv, api.XMod}
	}
	k := ks[r.Intn(len(ks))]
	if deep <= 1 || kind == api.VText || kind == api.VNull || k == but || k == api.XConst {
		l := leaves(kind)
		return l[r.Intn(len(l))]
	}
	n, in := 2, kind
	switch {
	case k == api.XNeg || k == api.XNot:
		n = 1
	case k >= api.XAnd:
		n = 2 + r.Intn(3)
	case slices.Contains(equals, k):
		in = r.Intn(4)
	case slices.Contains(orders, k):
		in = api.VInt + r.Intn(2)
	}
	x := api.Expr{K: k}
	for range n {
		x.L = append(x.L, tame(r, deep-1, in, k*(k/api.XAnd)))
	}
	return x
}

func TestKindAsTheWordsSay(t *testing.T) {
	n := shopNames(t)
	of := modelNames(shop(), shopVars(), shopTypes())
	r := rand.New(rand.NewSource(10))
	counts := map[string]int{}
	for i := range 60000 {
		x := tame(r, 1+i%6, i/6%4, 0)
		if len(inRow(x)) > api.MaxExpr {
			wantKind(t, n, "too many", x, 0, api.ErrArg)
			continue
		}
		k, e := modelKind(of, x)
		wantKind(t, n, "one at random", x, k, e)
		counts[fmt.Sprint(k, " ", e)]++
	}
	for _, what := range []string{"0 0", "1 0", "2 0", "3 0", "0 5", "0 6"} {
		if counts[what] < 1000 {
			t.Errorf("only %d of %s", counts[what], what)
		}
	}
}

func TestNamesAtRandom(t *testing.T) {
	r := rand.New(rand.NewSource(101))
	l := shop()
	letters := []string{"a", "b", "c", "m"}
	for range 2000 {
		var vars, types []string
		for range r.Intn(6) {
			vars, types = append(vars, letters[r.Intn(4)]), append(types, l[r.Intn(4)].Name)
		}
		n, of := wantNames(t, l, vars, types), modelNames(l, vars, types)
		for _, v := range letters {
			want, i := "", slices.Index(vars, v)
			if i >= 0 {
				want = types[i]
			}
			wantType(t, n, v, want, i >= 0)
			for _, f := range []string{"x", "k", "b", "only", "f0", "f15"} {
				k, ok := of[v+"."+f]
				e := api.OK
				if !ok {
					e = api.ErrNone
				}
				wantKind(t, n, "a field", field(v, f), k, e)
			}
		}
	}
}

// What is asked hangs on nothing that was asked ahead of it.
func TestKindAgain(t *testing.T) {
	n := shopNames(t)
	for range 3 {
		wantKind(t, n, "right", op(api.XLt, field("a", "x"), num(1)), api.VBool, api.OK)
		wantKind(t, n, "unknown", field("z", "x"), 0, api.ErrNone)
		wantType(t, n, "z", "", false)
		wantKind(t, n, "wrong", not(num(1)), 0, api.ErrType)
		wantType(t, n, "a", "buy", true)
	}
}

// P10.3

func TestNamesThatNoCallMade(t *testing.T) {
	var zero typing.Names
	for _, n := range []*typing.Names{nil, &zero, {}, new(typing.Names)} {
		l := append(notRight(), unknown()...)
		l = append(l, null, yes, num(1), text("x"), not(num(1)), op(api.XLt, field("a", "x"), num(1)))
		for i, x := range l {
			if k, e := n.Kind(x); k != 0 || e != api.ErrZero {
				t.Errorf("Kind of %d: %d, %d", i, k, e)
			}
			if e := n.Cond(x); e != api.ErrZero {
				t.Errorf("Cond of %d: %d", i, e)
			}
		}
		for _, v := range []string{"", "a", "buy", most} {
			wantType(t, n, v, "", false)
		}
	}
}

func FuzzKind(f *testing.F) {
	f.Add([]byte{11, 4, 2, 0, 0, 1, 2, 1, 2})
	f.Add([]byte{16, 15, 2, 0, 2, 17, 1, 1, 1, 0})
	f.Add([]byte{9, 1, 0, 2, 9, 9})
	n := shopNames(f)
	of := modelNames(shop(), shopVars(), shopTypes())
	f.Fuzz(func(t *testing.T, b []byte) {
		take := func() int {
			if len(b) == 0 {
				return 1
			}
			c := b[0]
			b = b[1:]
			return int(c)
		}
		var read func(deep, but int) api.Expr
		read = func(deep, but int) api.Expr {
			k := 1 + (take()+allKinds-1)%allKinds
			if deep == 0 || k == but {
				k = api.XConst
			}
			size := 2
			switch {
			case k == api.XConst:
				return leaves(take() % 4)[0]
			case k == api.XField:
				v, g := take()%8, take()%5
				return field([]string{"a", "b", "c", "m", "o", "z", most, "y"}[v], []string{"x", "k", "b", "only", "f3"}[g])
			case k == api.XNeg || k == api.XNot:
				size = 1
			case k >= api.XAnd:
				size = 2 + take()%3
			}
			x := api.Expr{K: k}
			for range size {
				x.L = append(x.L, read(deep-1, k*(k/api.XAnd)))
			}
			return x
		}
		x := read(12, 0)
		if len(inRow(x)) > api.MaxExpr {
			wantKind(t, n, "too many", x, 0, api.ErrArg)
			return
		}
		k, e := modelKind(of, x)
		wantKind(t, n, "one from bytes", x, k, e)
	})
}
