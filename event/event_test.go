package event_test

import (
	"fmt"
	"math"
	"math/rand"
	"slices"
	"strings"
	"testing"

	"haruspex/api"
	"haruspex/event"
)

var kinds = []int{api.VBool, api.VInt, api.VText}

var (
	null = api.Value{}
	full = strings.Repeat("t", api.MaxText)
)

func truth(n int64) api.Value { return api.Value{K: api.VBool, N: n} }

func number(n int64) api.Value { return api.Value{K: api.VInt, N: n} }

func text(s string) api.Value { return api.Value{K: api.VText, S: s} }

func field(name string, k int) api.Field { return api.Field{Name: name, K: k} }

func made(name string, l ...api.Field) api.Schema { return api.Schema{Name: name, Fields: l} }

func ev(kind string, time int64, l ...api.Value) api.Event {
	return api.Event{Type: kind, Time: time, L: l}
}

// many has n fields, f0 and on, whose kinds take turns.
func many(n int) []api.Field {
	var l []api.Field
	for i := range n {
		l = append(l, field(fmt.Sprintf("f%d", i), kinds[i%3]))
	}
	return l
}

// values has n of them, which fit many(n); by tells them apart.
func values(n int, by int64) []api.Value {
	var l []api.Value
	for i := range n {
		l = append(l, []api.Value{truth(by & 1), number(by + int64(i)), text(fmt.Sprint(by))}[i%3])
	}
	return l
}

// shop is a book with schemas of no field, of one, of some and of as many as may be.
func shop() []api.Schema {
	return []api.Schema{made("none"), made("buy", field("x", api.VInt), field("k", api.VText)), made("sell", field("k", api.VText), field("x", api.VInt)), made("on", field("b", api.VBool)), made("most", many(api.MaxFields)...)}
}

func fullBook() []api.Schema {
	var l []api.Schema
	for i := range api.MaxSchemas {
		l = append(l, made(fmt.Sprintf("s%d", i), many(i+1)...))
	}
	return l
}

// noBooks are lists that Book refuses, by each of its errors; all of them have a right schema buy.
func noBooks() [][]api.Schema {
	buy := shop()[1]
	all := [][]api.Schema{
		append(fullBook(), buy), slices.Repeat([]api.Schema{buy}, api.MaxSchemas+1), append([]api.Schema{buy}, make([]api.Schema, 1<<10)...),
		{buy, buy}, {buy, made("buy")}, {buy, made("a"), made("a")}, {made("a"), buy, made("a")}, append(shop(), buy),
	}
	for _, s := range []api.Schema{{}, made("A"), made("1"), made(strings.Repeat("n", api.MaxName+1)), made("a", field("", api.VInt)), made("a", field("X", api.VInt)), made("a", field("x", api.VNull)), made("a", field("x", 4)), made("a", field("x", -1)), made("a", field("x", api.VInt), field("x", api.VText)), made("a", many(api.MaxFields+1)...)} {
		all = append(all, []api.Schema{s, buy}, []api.Schema{buy, s}, append(shop(), s))
	}
	return all
}

// notRight are values that fit no kind.
func notRight() []api.Value {
	return []api.Value{
		truth(2), truth(-1), truth(math.MaxInt64), {K: api.VBool, S: "x"}, {K: api.VBool, N: 1, S: "x"}, {K: api.VInt, S: "x"}, {K: api.VInt, N: 7, S: "x"}, {K: api.VText, N: 1}, {K: api.VText, N: 1, S: "x"}, text(full + "t"),
		{N: 1}, {S: "x"}, {K: -1}, {K: 4}, {K: 5, N: 1}, {K: 257}, {K: math.MaxInt}, {K: math.MinInt}, {K: 1<<32 + 1},
	}
}

func fitting(k int) []api.Value {
	switch k {
	case api.VBool:
		return []api.Value{null, truth(0), truth(1)}
	case api.VInt:
		return []api.Value{null, number(0), number(1), number(2), number(-1), number(math.MaxInt64), number(math.MinInt64)}
	}
	return []api.Value{null, text(""), text("p"), text("it's"), text("\x00\xff"), text(full)}
}

func unfit(k int) []api.Value {
	l := notRight()
	for _, other := range kinds {
		if other != k {
			l = append(l, fitting(other)[1:]...)
		}
	}
	return l
}

func rightAs(v api.Value, k int) bool {
	if v == null {
		return true
	}
	if v.K != k {
		return false
	}
	return k == 1 && (v.N == 0 || v.N == 1) && v.S == "" || k == 2 && v.S == "" || k == 3 && v.N == 0 && len(v.S) <= 256
}

// refused tells Check's error by the chapter's words, of schemas of which it is known whether they are a book.
func refused(l []api.Schema, isBook bool, e api.Event) api.Errno {
	if !isBook {
		return 1
	}
	for _, s := range l {
		if s.Name != e.Type {
			continue
		}
		if e.Time < 0 {
			return 1
		}
		if len(e.L) != len(s.Fields) {
			return 4
		}
		for i, v := range e.L {
			if !rightAs(v, s.Fields[i].K) {
				return 5
			}
		}
		return 0
	}
	return 6
}

func copied(e api.Event) api.Event { return ev(e.Type, e.Time, slices.Clone(e.L)...) }

func equal(a, b api.Event) bool {
	return a.Type == b.Type && a.Time == b.Time && slices.Equal(a.L, b.L)
}

func said(e api.Event) string {
	out := fmt.Sprintf("%.40q at %d of %d:", e.Type, e.Time, len(e.L))
	for _, v := range e.L[:min(len(e.L), 20)] {
		out += fmt.Sprintf(" (%d %d %.40q)", v.K, v.N, v.S)
	}
	return out
}

func names(l []api.Schema) string {
	out := ""
	for _, s := range l[:min(len(l), 20)] {
		out += fmt.Sprintf(" %.40q", s.Name)
	}
	return out
}

// P8.1

func wantCheck(t *testing.T, l []api.Schema, e api.Event, want api.Errno) {
	t.Helper()
	before := copied(e)
	if got := event.Check(l, e); got != want {
		t.Errorf("Check of %s among%s: %d, not %d", said(e), names(l), got, want)
	}
	if !equal(e, before) {
		t.Errorf("Check of %s changed it", said(before))
	}
	n := 0
	if want == api.OK {
		n = 1
	}
	if got, err := event.Stream(l, []api.Event{e}); got != n || err != want {
		t.Errorf("Stream of %s among%s: %d, %d, not %d, %d", said(e), names(l), got, err, n, want)
	}
}

func TestCheck(t *testing.T) {
	l := shop()
	for _, time := range []int64{0, 1, 3, math.MaxInt64 - 1, math.MaxInt64} {
		wantCheck(t, l, ev("none", time), api.OK)
		wantCheck(t, l, api.Event{Type: "none", Time: time, L: []api.Value{}}, api.OK)
		wantCheck(t, l, ev("buy", time, number(1), text("p")), api.OK)
		wantCheck(t, l, ev("sell", time, text("p"), number(1)), api.OK)
		wantCheck(t, l, ev("on", time, truth(1)), api.OK)
		wantCheck(t, l, ev("most", time, values(api.MaxFields, time)...), api.OK)
	}
	for i, s := range fullBook() {
		wantCheck(t, fullBook(), ev(s.Name, 5, values(i+1, 5)...), api.OK)
	}
	for _, n := range []int{0, 1, api.MaxFields - 1, api.MaxFields} {
		wantCheck(t, []api.Schema{made("a", many(n)...)}, ev("a", 0, values(n, 8)...), api.OK)
		wantCheck(t, []api.Schema{made("a", many(n)...)}, ev("a", 0, make([]api.Value, n)...), api.OK)
	}
}

func TestCheckOfEachKind(t *testing.T) {
	for _, k := range kinds {
		for at := range api.MaxFields {
			f, l := many(api.MaxFields), values(api.MaxFields, 3)
			f[at].K = k
			for _, v := range fitting(k) {
				wantCheck(t, []api.Schema{made("a", field("x", k))}, ev("a", 0, v), api.OK)
				l[at] = v
				wantCheck(t, []api.Schema{made("a", f...)}, ev("a", 0, l...), api.OK)
			}
			for _, v := range unfit(k) {
				wantCheck(t, []api.Schema{made("a", field("x", k))}, ev("a", 0, v), api.ErrType)
				l[at] = v
				wantCheck(t, []api.Schema{made("a", f...)}, ev("a", 0, l...), api.ErrType)
			}
		}
	}
}

func TestCheckOfNoBook(t *testing.T) {
	for _, l := range noBooks() {
		wantCheck(t, l, ev("buy", 3, number(1), text("p")), api.ErrArg)
		for _, e := range []api.Event{{}, ev("zz", 3), ev("buy", -1, number(1), text("p")), ev("buy", 3), ev("buy", 3, text("p"), number(1)), ev("zz", -1, truth(2)), ev("a", 0), ev("", 0), ev("A", -5)} {
			wantCheck(t, l, e, api.ErrArg)
		}
	}
}

func TestCheckOfNoSchema(t *testing.T) {
	for _, name := range []string{"", "zz", "b", "bu", "buyy", "Buy", "BUY", " buy", "buy ", "buy\x00", "x", "k", "f0", "selL", strings.Repeat("n", 1<<16)} {
		for _, time := range []int64{0, 3, -1, math.MinInt64} {
			wantCheck(t, shop(), ev(name, time, number(1), text("p")), api.ErrNone)
			wantCheck(t, shop(), ev(name, time), api.ErrNone)
			wantCheck(t, shop(), ev(name, time, notRight()...), api.ErrNone)
			wantCheck(t, nil, ev(name, time), api.ErrNone)
			wantCheck(t, []api.Schema{}, ev(name, time, truth(2)), api.ErrNone)
		}
	}
}

func TestCheckOfTimes(t *testing.T) {
	for _, time := range []int64{-1, -2, -3, math.MinInt32, math.MinInt64 + 1, math.MinInt64} {
		wantCheck(t, shop(), ev("buy", time, number(1), text("p")), api.ErrArg)
		wantCheck(t, shop(), ev("buy", time), api.ErrArg)
		wantCheck(t, shop(), ev("buy", time, text("p"), number(1)), api.ErrArg)
		wantCheck(t, shop(), ev("buy", time, number(1), text("p"), null), api.ErrArg)
		wantCheck(t, shop(), ev("none", time), api.ErrArg)
	}
}

func TestCheckOfEachCount(t *testing.T) {
	for n := range api.MaxFields + 1 {
		l := []api.Schema{made("a", many(n)...)}
		for m := range 2*api.MaxFields + 2 {
			want := api.ErrForm
			if n == m {
				want = api.OK
			}
			wantCheck(t, l, ev("a", 1, values(m, 1)...), want)
			wantCheck(t, l, ev("a", 1, make([]api.Value, m)...), want)
			if n > 0 && m > 0 && n != m { // ahead of values that do not fit
				wantCheck(t, l, ev("a", 1, slices.Repeat([]api.Value{truth(2)}, m)...), api.ErrForm)
			}
		}
		wantCheck(t, l, ev("a", 1, make([]api.Value, 1<<16)...), api.ErrForm)
	}
}

// Whatever is wrong at once, the first that the chapter names is told.
func TestCheckOfSeveral(t *testing.T) {
	for bits := range 32 {
		for _, bad := range noBooks() {
			l, e := shop(), ev("buy", 0, number(1), text("p"))
			if bits&1 != 0 {
				l = bad
			}
			if bits&2 != 0 {
				e.Type = "zz"
			}
			if bits&4 != 0 {
				e.Time = -1
			}
			if bits&8 != 0 {
				e.L = append(e.L, null)
			}
			if bits&16 != 0 {
				e.L[1] = number(2)
			}
			first := api.OK
			for i, err := range []api.Errno{api.ErrArg, api.ErrNone, api.ErrArg, api.ErrForm, api.ErrType} {
				if first == api.OK && bits>>i&1 != 0 {
					first = err
				}
			}
			wantCheck(t, l, e, first)
		}
	}
}

// fewEvents are all of few Types, Times and values, right or not.
func fewEvents() []api.Event {
	var all []api.Event
	few := []api.Value{null, truth(1), truth(2), number(1), text("p"), {K: 4}}
	for _, name := range []string{"none", "buy", "sell", "on", "zz", ""} {
		for _, time := range []int64{-1, 0, 1} {
			all = append(all, ev(name, time))
			for _, v := range few {
				all = append(all, ev(name, time, v))
				for _, w := range few {
					all = append(all, ev(name, time, v, w), ev(name, time, v, w, v))
				}
			}
		}
	}
	return all
}

func TestCheckOfFew(t *testing.T) {
	for _, e := range fewEvents() {
		wantCheck(t, shop(), e, refused(shop(), true, e))
		wantCheck(t, noBooks()[3], e, refused(noBooks()[3], false, e))
	}
}

// row has n events whose Times rise, some of them by 0.
func row(n int) []api.Event {
	var s []api.Event
	for i := range n {
		at := int64(i / 2)
		s = append(s, []api.Event{ev("buy", at, number(at), text("p")), ev("none", at), ev("sell", at, null, number(-at))}[i%3])
	}
	return s
}

func wantStream(t *testing.T, what string, l []api.Schema, s []api.Event, n int, want api.Errno) {
	t.Helper()
	if got, e := event.Stream(l, s); got != n || e != want {
		t.Errorf("Stream of %s, %d events: %d, %d, not %d, %d", what, len(s), got, e, n, want)
	}
}

func TestStream(t *testing.T) {
	l := shop()
	wantStream(t, "nil", l, nil, 0, api.OK)
	wantStream(t, "none", l, []api.Event{}, 0, api.OK)
	wantStream(t, "nil, no schema", nil, nil, 0, api.OK)
	for _, n := range []int{1, 2, 3, 4, 100, api.MaxEvents - 1, api.MaxEvents} {
		s := row(n)
		wantStream(t, "a row", l, s, n, api.OK)
		if !slices.EqualFunc(s, row(n), equal) {
			t.Errorf("Stream changed one of %d", n)
		}
		wantStream(t, "one Time", l, slices.Repeat([]api.Event{ev("none", 7)}, n), n, api.OK)
		wantStream(t, "no schema", nil, s, 0, api.ErrNone)
	}
	for _, x := range [][]int64{{0}, {math.MaxInt64}, {0, 0}, {0, 1}, {3, 3, 3}, {0, math.MaxInt64}, {math.MaxInt64, math.MaxInt64}, {0, 0, 1, 1, 2, math.MaxInt64 - 1, math.MaxInt64}} {
		wantStream(t, fmt.Sprint("Times ", x), l, times(x...), len(x), api.OK)
	}
}

func times(l ...int64) []api.Event {
	var s []api.Event
	for _, at := range l {
		s = append(s, ev("none", at))
	}
	return s
}

func TestStreamOutOfOrder(t *testing.T) {
	for _, x := range []struct {
		l  []int64
		at int
	}{
		{[]int64{5, 4}, 1}, {[]int64{1, 0}, 1}, {[]int64{math.MaxInt64, 0}, 1}, {[]int64{math.MaxInt64, math.MaxInt64 - 1}, 1}, // the document's example ahead
		{[]int64{3, 3, 2}, 2}, {[]int64{3, 2, 3}, 1}, {[]int64{3, 2, 1}, 1}, {[]int64{0, 9, 8, 9, 8}, 2}, {[]int64{5, 6, 5}, 2}, {[]int64{5, 6, 5, 7}, 2}, {[]int64{9, 8, 0}, 1}, {[]int64{0, 1, 2, 3, 0}, 4},
	} {
		wantStream(t, fmt.Sprint("Times ", x.l), shop(), times(x.l...), x.at, api.ErrOrder)
	}
	for _, n := range []int{2, 3, 8, 50} {
		for i := 1; i < n; i++ {
			s := row(n)
			for j := range s {
				s[j].Time += int64(j) + 1 // each above the one ahead
			}
			s[i].Time = s[i-1].Time
			wantStream(t, "two of one Time", shop(), s, n, api.OK)
			s[i].Time--
			wantStream(t, "one that is less", shop(), s, i, api.ErrOrder)
		}
	}
	s := row(api.MaxEvents)
	s[api.MaxEvents-1].Time = 0
	wantStream(t, "the last of MaxEvents", shop(), s, api.MaxEvents-1, api.ErrOrder)
}

// wrong is one event for each error of Check, each with a Time that is not ahead of any.
func wrong() map[api.Errno][]api.Event {
	const last = math.MaxInt64
	return map[api.Errno][]api.Event{
		api.ErrNone: {ev("zz", last), ev("", last), ev("zz", -1)},
		api.ErrArg:  {ev("none", -1), ev("buy", math.MinInt64), ev("buy", -1, truth(1), truth(1))},
		api.ErrForm: {ev("none", last, null), ev("buy", last), ev("buy", last, number(1)), ev("buy", last, number(1), text("p"), null), ev("buy", last, truth(2))},
		api.ErrType: {ev("buy", last, text("p"), null), ev("buy", last, null, number(1)), ev("on", last, truth(2)), ev("sell", last, text(full+"t"), null)},
	}
}

func TestStreamOfOneRefused(t *testing.T) {
	for want, all := range wrong() {
		for _, e := range all {
			for _, n := range []int{1, 2, 3, 20} {
				for i := range n {
					s := row(n)
					s[i] = e
					wantStream(t, said(e), shop(), s, i, want)
				}
			}
			s := row(api.MaxEvents)
			s[api.MaxEvents-1] = e
			wantStream(t, said(e), shop(), s, api.MaxEvents-1, want)
			s[0] = e
			wantStream(t, said(e), shop(), s, 0, want)
		}
	}
}

// An event that is refused is told by Check's error, also where its Time is less than that of the one ahead.
func TestStreamOfRefusedOutOfOrder(t *testing.T) {
	for want, all := range wrong() {
		for _, e := range all {
			e.Time = min(e.Time, 3)
			for _, n := range []int{1, 2, 9} {
				s := append(times(slices.Repeat([]int64{4}, n)...), e, ev("none", 4))
				wantStream(t, said(e), shop(), s, n, want)
			}
		}
	}
}

// Of two that are refused, the first is told, whatever their errors are.
func TestStreamTellsTheFirst(t *testing.T) {
	faults := wrong()
	faults[api.ErrOrder] = times(0)
	for one, some := range faults {
		for two, others := range faults {
			for i := 1; i < 6; i++ {
				for j := i + 1; j < 7; j++ {
					s := times(5, 5, 5, 5, 5, 5, 5)
					s[i], s[j] = some[0], others[len(others)-1]
					wantStream(t, fmt.Sprint(one, " ahead of ", two), shop(), s, i, one)
				}
			}
		}
	}
	s := append(times(9), ev("zz", -1), ev("none", 1))
	wantStream(t, "the Time behind one that is refused", shop(), s, 1, api.ErrNone)
}

// More than MaxEvents are told ahead of all else.
func TestStreamTooLong(t *testing.T) {
	for _, n := range []int{api.MaxEvents + 1, api.MaxEvents + 2, 2 * api.MaxEvents, 1 << 16} {
		wantStream(t, "right ones", shop(), row(n), 0, api.ErrLong)
		wantStream(t, "zero ones", shop(), make([]api.Event, n), 0, api.ErrLong)
		wantStream(t, "right ones, no schema", nil, row(n), 0, api.ErrLong)
		for _, l := range noBooks() {
			wantStream(t, "no book", l, row(n), 0, api.ErrLong)
		}
		for _, i := range []int{0, 1, api.MaxEvents - 1, api.MaxEvents, n - 1} {
			for _, all := range wrong() {
				s := row(n)
				s[i] = all[0]
				wantStream(t, said(s[i]), shop(), s, 0, api.ErrLong)
			}
			s := row(n)
			s[i].Time = math.MaxInt64
			wantStream(t, "Times that fall", shop(), s, 0, api.ErrLong)
		}
	}
}

func TestStreamOfNoBook(t *testing.T) {
	for _, l := range noBooks() {
		for _, n := range []int{1, 2, 50, api.MaxEvents} {
			wantStream(t, "no book", l, row(n), 0, api.ErrArg)
			wantStream(t, "no book, zero ones", l, make([]api.Event, n), 0, api.ErrArg)
		}
		wantStream(t, "no book, falling Times", l, times(5, 4), 0, api.ErrArg)
		wantStream(t, "no book and no event to refuse", l, nil, 0, api.OK)
	}
}

// P8.2

func wantGet(t *testing.T, l []api.Schema, e api.Event, name string, want api.Value, ok bool) {
	t.Helper()
	if v, found := event.Get(l, e, name); v != want || found != ok {
		t.Errorf("Get of %.40q of %s among%s: %v, %t, not %v, %t", name, said(e), names(l), v, found, want, ok)
	}
}

func wantHas(t *testing.T, l []api.Schema, name string, f string, want bool) {
	t.Helper()
	if got := event.Has(l, name, f); got != want {
		t.Errorf("Has of %.40q of %.40q among%s: %t", f, name, names(l), got)
	}
}

func TestGet(t *testing.T) {
	l := shop()
	wantGet(t, l, ev("buy", 3, number(1), text("p")), "x", number(1), true)
	wantGet(t, l, ev("buy", 3, number(1), text("p")), "k", text("p"), true)
	wantGet(t, l, ev("sell", 3, text("q"), number(2)), "x", number(2), true)
	wantGet(t, l, ev("sell", 3, text("q"), number(2)), "k", text("q"), true)
	for _, s := range fullBook() {
		e := ev(s.Name, 1, values(len(s.Fields), 6)...)
		before := copied(e)
		for i, f := range s.Fields {
			wantGet(t, fullBook(), e, f.Name, values(api.MaxFields, 6)[i], true)
		}
		wantGet(t, fullBook(), e, fmt.Sprintf("f%d", len(s.Fields)), null, false)
		if !equal(e, before) {
			t.Errorf("Get of %s changed it", said(before))
		}
	}
	for _, k := range kinds { // a null that is there is true
		wantGet(t, []api.Schema{made("a", field("x", k))}, ev("a", 0, null), "x", null, true)
	}
}

func TestGetOfNothing(t *testing.T) {
	e := ev("buy", 3, number(1), text("p"))
	for _, name := range []string{"", "z", "X", "K", "xk", "x ", " x", "b", "f0", "buy", "none", strings.Repeat("x", 1<<16)} {
		wantGet(t, shop(), e, name, null, false)
		wantGet(t, nil, e, name, null, false)
	}
	for _, name := range []string{"", "zz", "Buy", "bu", "buyy", "x", "k"} {
		for _, f := range []string{"x", "k", "", "f0"} {
			wantGet(t, shop(), ev(name, 3, number(1), text("p")), f, null, false)
		}
	}
	for _, l := range [][]api.Schema{nil, {}, {made("a")}} {
		for _, e := range []api.Event{{}, e, ev("a", 1, number(1)), ev("none", 0)} {
			for _, name := range []string{"", "x", "a", "k"} {
				wantGet(t, l, e, name, null, false)
			}
		}
	}
	wantGet(t, shop(), ev("none", 0), "x", null, false)
	wantGet(t, shop(), ev("none", 0, number(1)), "x", null, false) // a value without a field
}

// Just the fields whose values are there are got, and values beyond the fields are none.
func TestGetOfEachCount(t *testing.T) {
	l := []api.Schema{made("z"), made("a", many(api.MaxFields)...)}
	for n := range 2 * api.MaxFields {
		for i := range 2 * api.MaxFields {
			name := fmt.Sprintf("f%d", i)
			if i < n && i < api.MaxFields {
				wantGet(t, l, ev("a", 0, values(n, 4)...), name, values(n, 4)[i], true)
			} else {
				wantGet(t, l, ev("a", 0, values(n, 4)...), name, null, false)
			}
		}
	}
}

// Get and Has look for names alone: whether there is a book, and whether the event is right, is not asked.
func TestGetOfNotRight(t *testing.T) {
	for _, l := range noBooks() {
		wantGet(t, l, ev("buy", -1, number(1), text("p")), "k", text("p"), true)
		wantGet(t, l, ev("buy", 0, truth(7)), "x", truth(7), true)
		wantGet(t, l, ev("buy", 0, truth(7)), "k", null, false)
		wantHas(t, l, "buy", "k", true)
		wantHas(t, l, "buy", "y", false)
	}
	for _, v := range append(notRight(), number(1), text("p")) {
		wantGet(t, shop(), ev("on", math.MinInt64, v), "b", v, true)
		wantGet(t, shop(), ev("on", 0, v, v, v), "b", v, true)
	}
	twice := []api.Schema{made("a", field("x", 1), field("y", 2), field("x", 3)), made("a", field("z", 1)), {}, made("", field("", 9))}
	e := ev("a", 0, number(10), number(11), number(12))
	wantGet(t, twice, e, "x", number(10), true) // the first of each name
	wantGet(t, twice, e, "y", number(11), true)
	wantGet(t, twice, e, "z", null, false)
	wantGet(t, twice, api.Event{L: e.L}, "", null, false)
	wantGet(t, twice[3:], api.Event{L: e.L}, "", number(10), true)
	wantHas(t, twice, "a", "x", true)
	wantHas(t, twice, "a", "z", false)
	wantHas(t, twice, "", "", false)
	wantHas(t, twice[3:], "", "", true)
}

func TestHas(t *testing.T) {
	for _, l := range [][]api.Schema{shop(), fullBook(), {made("a", field("a", api.VBool))}} {
		for _, s := range l {
			for _, f := range []string{"", "a", "x", "k", "b", "X", "xk", "f0", "f1", "f15", "f16", "f", "buy", s.Name} {
				want := slices.ContainsFunc(s.Fields, func(g api.Field) bool { return g.Name == f })
				wantHas(t, l, s.Name, f, want)
				wantHas(t, l, s.Name+"_", f, false)
				wantHas(t, l, strings.ToUpper(s.Name), f, false)
				wantHas(t, l, "", f, false)
				wantHas(t, nil, s.Name, f, false)
				wantHas(t, []api.Schema{}, s.Name, f, false)
			}
		}
	}
	wantHas(t, shop(), "buy", "k", true)
	wantHas(t, shop(), "on", "k", false) // which others have
	wantHas(t, shop(), "x", "buy", false)
}

func TestSpan(t *testing.T) {
	for _, x := range []struct {
		l        []int64
		from, to int
		want     int64
	}{
		{[]int64{5}, 0, 0, 0}, {[]int64{math.MinInt64}, 0, 0, 0}, {[]int64{5, 8}, 0, 1, 3}, {[]int64{5, 8}, 1, 1, 0}, {[]int64{0, 3, 3, 10}, 0, 3, 10}, {[]int64{0, 3, 3, 10}, 1, 2, 0}, {[]int64{0, 3, 3, 10}, 2, 3, 7}, {[]int64{0, math.MaxInt64}, 0, 1, math.MaxInt64},
		{[]int64{3, 3, 2}, 0, 2, -1}, {[]int64{math.MaxInt64, 0}, 0, 1, -math.MaxInt64}, {[]int64{-1, math.MaxInt64}, 0, 1, math.MinInt64}, {[]int64{math.MinInt64, math.MaxInt64}, 0, 1, -1}, {[]int64{math.MaxInt64, math.MinInt64}, 0, 1, 1}, {[]int64{1, math.MinInt64}, 0, 1, math.MaxInt64}, {[]int64{0, math.MinInt64}, 0, 1, math.MinInt64}, {[]int64{math.MinInt64, 0}, 0, 1, math.MinInt64},
	} {
		if d, e := event.Span(times(x.l...), x.from, x.to); d != x.want || e != api.OK {
			t.Errorf("Span of %d, from %d to %d: %d, %d, not %d", x.l, x.from, x.to, d, e, x.want)
		}
	}
}

func TestSpanOfEachPlace(t *testing.T) {
	for _, n := range []int{0, 1, 2, 5, 20, api.MaxEvents, api.MaxEvents + 1} { // how many there are is not asked
		s := row(n)
		for i := range s {
			s[i].Time *= s[i].Time
		}
		places := []int{math.MinInt, math.MinInt + 1, math.MinInt32, -n - 1, -n, -2, -1, 0, 1, 2, 3, n / 2, n - 2, n - 1, n, n + 1, 2 * n, 1 << 32, math.MaxInt - 1, math.MaxInt}
		for _, from := range places {
			for _, to := range places {
				d, e := event.Span(s, from, to)
				if 0 <= from && from <= to && to < n {
					if d != s[to].Time-s[from].Time || e != api.OK {
						t.Errorf("Span of %d, from %d to %d: %d, %d", n, from, to, d, e)
					}
				} else if d != 0 || e != api.ErrArg {
					t.Errorf("Span of %d, from %d to %d: %d, %d", n, from, to, d, e)
				}
			}
		}
	}
	if d, e := event.Span(nil, 0, 0); d != 0 || e != api.ErrArg {
		t.Errorf("Span of nil: %d, %d", d, e)
	}
}

func wantSame(t *testing.T, a, b api.Event, want bool) {
	t.Helper()
	if event.Same(a, b) != want || event.Same(b, a) != want {
		t.Errorf("Same of %s and %s: not %t", said(a), said(b), want)
	}
}

func TestSame(t *testing.T) {
	e := ev("buy", 3, number(1), text("p"))
	wantSame(t, e, ev("buy", 3, number(1), text("p")), true)
	wantSame(t, api.Event{}, api.Event{}, true)
	wantSame(t, api.Event{}, api.Event{L: []api.Value{}}, true) // nil and empty are the same
	for _, other := range []api.Event{
		ev("sell", 3, number(1), text("p")), ev("buy ", 3, number(1), text("p")), ev("Buy", 3, number(1), text("p")), ev("", 3, number(1), text("p")),
		ev("buy", 4, number(1), text("p")), ev("buy", 2, number(1), text("p")), ev("buy", -3, number(1), text("p")), ev("buy", 3+1<<32, number(1), text("p")),
		ev("buy", 3), ev("buy", 3, number(1)), ev("buy", 3, text("p")), ev("buy", 3, number(1), text("p"), null), ev("buy", 3, null, number(1), text("p")),
		ev("buy", 3, number(2), text("p")), ev("buy", 3, number(1), text("q")), ev("buy", 3, number(1), text("")), ev("buy", 3, truth(1), text("p")), ev("buy", 3, number(1), null), ev("buy", 3, null, text("p")), ev("buy", 3, text("p"), number(1)), ev("buy", 3, number(1), api.Value{K: api.VText, N: 1, S: "p"}), ev("buy", 3, api.Value{K: api.VInt, N: 1, S: "p"}, text("p")), {},
	} {
		wantSame(t, e, other, false)
		wantSame(t, other, copied(other), true)
	}
	for at := range api.MaxFields { // one value alone, at each place
		other := ev("most", 0, values(api.MaxFields, 4)...)
		wantSame(t, other, ev("most", 0, values(api.MaxFields, 4)...), true)
		other.L[at].K++
		wantSame(t, other, ev("most", 0, values(api.MaxFields, 4)...), false)
	}
}

func TestSameOfFew(t *testing.T) {
	all := fewEvents()
	for i, a := range all {
		for j, b := range all[:i+1] {
			if want := i == j; event.Same(a, b) != want || event.Same(b, a) != want {
				t.Errorf("Same of %s and %s: not %t", said(a), said(b), want)
			}
		}
	}
}

// P8.3

func someEvent(by *rand.Rand, l []api.Schema, time int64) api.Event {
	s := l[by.Intn(len(l))]
	e := ev(s.Name, time)
	for _, f := range s.Fields {
		all := fitting(f.K)
		e.L = append(e.L, all[by.Intn(len(all))])
	}
	return e
}

func someStream(by *rand.Rand, l []api.Schema, n int) []api.Event {
	var s []api.Event
	time := int64(by.Intn(3))
	for range n {
		s = append(s, someEvent(by, l, time))
		time += int64(by.Intn(3))
	}
	return s
}

// spoilt has up to two things wrong with it, wherever.
func spoilt(by *rand.Rand, s []api.Event) []api.Event {
	for range by.Intn(3) {
		e := &s[by.Intn(len(s))]
		switch by.Intn(5) {
		case 0:
			e.Type = "zz"
		case 1:
			e.Time -= int64(by.Intn(40))
		case 2:
			e.L = append(e.L, null)
		case 3:
			e.L = e.L[:len(e.L)/2]
		default:
			for i := range e.L {
				e.L[i] = notRight()[by.Intn(len(notRight()))]
			}
		}
	}
	return s
}

// told is Stream's answer by the chapter's words.
func told(l []api.Schema, isBook bool, s []api.Event) (int, api.Errno) {
	if len(s) > 4096 {
		return 0, 2
	}
	for i, e := range s {
		if err := refused(l, isBook, e); err != 0 {
			return i, err
		}
		if i > 0 && s[i-1].Time > e.Time {
			return i, 11
		}
	}
	return len(s), 0
}

// wantBeginnings: up to the place that is told each beginning is a stream, and each longer one is refused as the whole is.
func wantBeginnings(t *testing.T, l []api.Schema, s []api.Event, places ...int) {
	t.Helper()
	n, why := event.Stream(l, s)
	for _, i := range places {
		at, want := min(i, n), api.OK
		if i > n {
			want = why
		}
		wantStream(t, fmt.Sprintf("a beginning of one of %d that answers %d, %d", len(s), n, why), l, s[:i], at, want)
	}
}

func places(n int) []int {
	var l []int
	for i := range n + 1 {
		l = append(l, i)
	}
	return l
}

func TestBeginnings(t *testing.T) {
	by := rand.New(rand.NewSource(1))
	for _, l := range [][]api.Schema{shop(), fullBook()} {
		for n := range 40 {
			s := someStream(by, l, n)
			wantStream(t, "some", l, s, n, api.OK)
			wantBeginnings(t, l, s, places(n)...)
		}
	}
	most := row(api.MaxEvents)
	wantBeginnings(t, shop(), most, 0, 1, 2, 1000, api.MaxEvents-1, api.MaxEvents)
}

func TestBeginningsOfSpoilt(t *testing.T) {
	by := rand.New(rand.NewSource(2))
	for range 3000 {
		s := spoilt(by, someStream(by, shop(), by.Intn(12)+1))
		n, want := told(shop(), true, s)
		wantStream(t, "some", shop(), s, n, want)
		wantBeginnings(t, shop(), s, places(len(s))...)
	}
	for _, l := range noBooks() {
		wantBeginnings(t, l, row(3), places(3)...)
	}
}

// An event of a stream passes Check alone, and behind any that is not later.
func TestEventsOfStreams(t *testing.T) {
	by := rand.New(rand.NewSource(3))
	for range 200 {
		s := someStream(by, shop(), by.Intn(10)+1)
		for i, e := range s {
			wantCheck(t, shop(), e, api.OK)
			wantStream(t, "one that is left out", shop(), slices.Delete(slices.Clone(s), i, i+1), len(s)-1, api.OK)
			wantStream(t, "an end", shop(), s[i:], len(s)-i, api.OK)
			if d, err := event.Span(s, 0, i); d < 0 || err != api.OK {
				t.Errorf("Span of a stream to %d: %d, %d", i, d, err)
			}
		}
	}
}

func FuzzEvent(f *testing.F) {
	f.Add("buy", int64(3), 2, int64(1), "", 3, int64(0), "p", 2)
	f.Add("sell", int64(0), 3, int64(0), "q", 2, int64(-5), "", 2)
	f.Add("zz", int64(-1), 1, int64(2), "", 0, int64(1), "", 3)
	f.Add("on", int64(math.MinInt64), 4, int64(0), full+"t", -1, int64(0), "", 1)
	f.Fuzz(func(t *testing.T, name string, time int64, k int, n int64, s string, m int, o int64, u string, count int) {
		all := []api.Value{{K: k, N: n, S: s}, {K: m, N: o, S: u}, {}}
		e := ev(name, time, all[:max(0, min(count, 3))]...)
		wantCheck(t, shop(), e, refused(shop(), true, e))
		wantCheck(t, noBooks()[0], e, api.ErrArg)
		wantSame(t, e, copied(e), true)
		for _, s := range shop() {
			for i, g := range s.Fields {
				if s.Name == name && i < len(e.L) {
					wantGet(t, shop(), e, g.Name, e.L[i], true)
				}
			}
		}
		row := []api.Event{ev("none", 3), e, ev("none", 5)}
		at, want := told(shop(), true, row)
		wantStream(t, said(e), shop(), row, at, want)
		wantBeginnings(t, shop(), row, places(3)...)
	})
}
