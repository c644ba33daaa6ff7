package num_test

import (
	"math"
	"math/big"
	"math/rand"
	"slices"
	"strconv"
	"strings"
	"testing"

	"haruspex/api"
	"haruspex/num"
)

const (
	least = math.MinInt64
	most  = math.MaxInt64
	root  = 3037000499 // its square is the greatest that is not beyond
)

// edges: small ones, both ends, and around powers of 2 and of 10, of which the product of two may be just within or just beyond.
func edges() []int64 {
	l := []int64{root, root + 1, most / 3, most / 3 * 2, 907, 1000003}
	for i := range int64(11) {
		l = append(l, i, most-i)
	}
	for i := range 63 {
		l = append(l, 1<<i-1, 1<<i, 1<<i+1)
	}
	for p := int64(10); p < most/10; p *= 10 {
		l = append(l, p-1, p, p+1)
	}
	for _, n := range slices.Clone(l) {
		l = append(l, -n, -n-1)
	}
	slices.Sort(l)
	return slices.Compact(l)
}

// exact is what a call must answer, whose exact number is x (nil: there is none).
func exact(x *big.Int) (int64, api.Errno) {
	if x == nil || !x.IsInt64() {
		return 0, api.ErrOver
	}
	return x.Int64(), api.OK
}

type calls struct {
	name string
	num  func(int64, int64) (int64, api.Errno)
	big  func(a, b *big.Int) *big.Int
}

func divided(how func(z, a, b *big.Int) *big.Int) func(a, b *big.Int) *big.Int {
	return func(a, b *big.Int) *big.Int {
		if b.Sign() == 0 {
			return nil
		}
		return how(new(big.Int), a, b)
	}
}

func ofTwo() []calls {
	return []calls{
		{"Add", num.Add, func(a, b *big.Int) *big.Int { return new(big.Int).Add(a, b) }},
		{"Sub", num.Sub, func(a, b *big.Int) *big.Int { return new(big.Int).Sub(a, b) }},
		{"Mul", num.Mul, func(a, b *big.Int) *big.Int { return new(big.Int).Mul(a, b) }},
		{"Div", num.Div, divided((*big.Int).Quo)},
		{"Mod", num.Mod, divided((*big.Int).Rem)},
	}
}

func wantExact(t *testing.T, a, b int64) {
	t.Helper()
	x, y := big.NewInt(a), big.NewInt(b)
	for _, c := range ofTwo() {
		want, no := exact(c.big(x, y))
		if got, e := c.num(a, b); got != want || e != no {
			t.Errorf("%s(%d, %d): %d, %d, not %d, %d", c.name, a, b, got, e, want, no)
		}
	}
}

func wantSum(t *testing.T, l []int64) {
	t.Helper()
	whole := new(big.Int)
	for _, n := range l {
		whole.Add(whole, big.NewInt(n))
	}
	want, no := exact(whole)
	if got, e := num.Sum(l); got != want || e != no {
		t.Errorf("Sum of %d numbers, %d ..: %d, %d, not %d, %d", len(l), l[:min(len(l), 8)], got, e, want, no)
	}
}

// anyOf has numbers of all sizes, the edges and those beside them often.
func anyOf(r *rand.Rand, l []int64) int64 {
	switch r.Intn(3) {
	case 0:
		return l[r.Intn(len(l))]
	case 1:
		return l[r.Intn(len(l))] + int64(r.Intn(7)) - 3
	}
	return int64(r.Uint64()) >> r.Intn(64)
}

// P4.1

type two struct {
	a, b, want int64
	e          api.Errno
}

func wantTwo(t *testing.T, name string, call func(int64, int64) (int64, api.Errno), l []two) {
	t.Helper()
	for _, x := range l {
		if got, e := call(x.a, x.b); got != x.want || e != x.e {
			t.Errorf("%s(%d, %d): %d, %d, not %d, %d", name, x.a, x.b, got, e, x.want, x.e)
		}
	}
}

func TestAdd(t *testing.T) {
	wantTwo(t, "Add", num.Add, []two{
		{0, 0, 0, api.OK}, {2, 3, 5, api.OK}, {-5, 3, -2, api.OK}, {5, -3, 2, api.OK}, {-2, -3, -5, api.OK}, {7, -7, 0, api.OK},
		{most, 0, most, api.OK}, {0, least, least, api.OK}, {most - 1, 1, most, api.OK}, {1, most - 1, most, api.OK},
		{least + 1, -1, least, api.OK}, {-1, least + 1, least, api.OK}, {most, least, -1, api.OK}, {least, most, -1, api.OK},
		{1 << 62, 1<<62 - 1, most, api.OK}, {-1 << 62, -1 << 62, least, api.OK}, {most, -1, most - 1, api.OK}, {least, 1, least + 1, api.OK},

		{most, 1, 0, api.ErrOver}, {1, most, 0, api.ErrOver}, {1 << 62, 1 << 62, 0, api.ErrOver}, {most, most, 0, api.ErrOver},
		{least, -1, 0, api.ErrOver}, {-1, least, 0, api.ErrOver}, {-1 << 62, -1<<62 - 1, 0, api.ErrOver}, {least, least, 0, api.ErrOver},
	})
}

func TestSub(t *testing.T) {
	wantTwo(t, "Sub", num.Sub, []two{
		{0, 0, 0, api.OK}, {5, 3, 2, api.OK}, {3, 5, -2, api.OK}, {-3, 5, -8, api.OK}, {3, -5, 8, api.OK}, {-3, -5, 2, api.OK},
		{most, 0, most, api.OK}, {least, 0, least, api.OK}, {0, most, -most, api.OK}, {-1, most, least, api.OK}, {-1, least, most, api.OK},
		{most, most, 0, api.OK}, {least, least, 0, api.OK}, {0, least + 1, most, api.OK}, {least + 1, 1, least, api.OK}, {most - 1, -1, most, api.OK},

		{0, least, 0, api.ErrOver}, {1, least, 0, api.ErrOver}, {most, -1, 0, api.ErrOver}, {most, least, 0, api.ErrOver},
		{least, 1, 0, api.ErrOver}, {-2, most, 0, api.ErrOver}, {least, most, 0, api.ErrOver}, {1 << 62, -1 << 62, 0, api.ErrOver},
	})
}

func TestMul(t *testing.T) {
	wantTwo(t, "Mul", num.Mul, []two{
		{0, 0, 0, api.OK}, {6, 7, 42, api.OK}, {-6, 7, -42, api.OK}, {6, -7, -42, api.OK}, {-6, -7, 42, api.OK},
		{0, least, 0, api.OK}, {least, 0, 0, api.OK}, {0, most, 0, api.OK}, {0, -1, 0, api.OK}, {-1, 0, 0, api.OK},
		{1, least, least, api.OK}, {least, 1, least, api.OK}, {most, -1, -most, api.OK}, {-1, most, -most, api.OK}, {least + 1, -1, most, api.OK},
		{1<<62 - 1, 2, most - 1, api.OK}, {-1 << 62, 2, least, api.OK}, {1 << 62, -2, least, api.OK}, {2, -1 << 62, least, api.OK}, {1 << 31, -1 << 32, least, api.OK},
		{root, root, root * root, api.OK}, {-root, root, -root * root, api.OK}, {most / 7, 7, most, api.OK}, {7, least / 7, least + 1, api.OK},

		{1 << 62, 2, 0, api.ErrOver}, {2, 1 << 62, 0, api.ErrOver}, {least, -1, 0, api.ErrOver}, {-1, least, 0, api.ErrOver},
		{root + 1, root + 1, 0, api.ErrOver}, {-root - 1, root + 1, 0, api.ErrOver}, {-1 << 62, -2, 0, api.ErrOver}, {1 << 31, 1 << 32, 0, api.ErrOver},
		{1 << 32, 1 << 32, 0, api.ErrOver}, {-1 << 32, 1 << 32, 0, api.ErrOver}, {1<<32 + 1, 1 << 32, 0, api.ErrOver}, {least, 2, 0, api.ErrOver},
		{most, most, 0, api.ErrOver}, {least, least, 0, api.ErrOver}, {most, least, 0, api.ErrOver}, {most/7 + 1, 7, 0, api.ErrOver},
	})
}

func TestDiv(t *testing.T) {
	wantTwo(t, "Div", num.Div, []two{
		{7, 2, 3, api.OK}, {-7, 2, -3, api.OK}, {7, -2, -3, api.OK}, {-7, -2, 3, api.OK}, {6, 3, 2, api.OK}, {-6, 3, -2, api.OK}, {6, -3, -2, api.OK}, {-6, -3, 2, api.OK},
		{0, 1, 0, api.OK}, {0, -1, 0, api.OK}, {0, least, 0, api.OK}, {1, 2, 0, api.OK}, {-1, 2, 0, api.OK}, {1, -2, 0, api.OK}, {-1, -2, 0, api.OK},
		{most, 1, most, api.OK}, {most, -1, -most, api.OK}, {least, 1, least, api.OK}, {least + 1, -1, most, api.OK}, {least, 2, -1 << 62, api.OK}, {least, -2, 1 << 62, api.OK},
		{least, least, 1, api.OK}, {most, most, 1, api.OK}, {least, most, -1, api.OK}, {most, least, 0, api.OK}, {least + 1, least, 0, api.OK}, {5, -1, -5, api.OK}, {-5, -1, 5, api.OK},

		{0, 0, 0, api.ErrOver}, {1, 0, 0, api.ErrOver}, {-1, 0, 0, api.ErrOver}, {most, 0, 0, api.ErrOver}, {least, 0, 0, api.ErrOver}, {least, -1, 0, api.ErrOver},
	})
}

func TestMod(t *testing.T) {
	wantTwo(t, "Mod", num.Mod, []two{
		{7, 2, 1, api.OK}, {-7, 2, -1, api.OK}, {7, -2, 1, api.OK}, {-7, -2, -1, api.OK}, {6, 3, 0, api.OK}, {-6, 3, 0, api.OK}, {6, -3, 0, api.OK}, {-6, -3, 0, api.OK},
		{0, 1, 0, api.OK}, {0, -1, 0, api.OK}, {0, least, 0, api.OK}, {1, 5, 1, api.OK}, {-1, 5, -1, api.OK}, {1, -5, 1, api.OK}, {-1, -5, -1, api.OK},
		{least, -1, 0, api.OK}, {least, 1, 0, api.OK}, {most, -1, 0, api.OK}, {most, 2, 1, api.OK}, {least, 10, -8, api.OK}, {most, 10, 7, api.OK},
		{least, least, 0, api.OK}, {least, most, -1, api.OK}, {most, least, most, api.OK}, {least + 1, least, least + 1, api.OK}, {-1, least, -1, api.OK},

		{0, 0, 0, api.ErrOver}, {1, 0, 0, api.ErrOver}, {-1, 0, 0, api.ErrOver}, {most, 0, 0, api.ErrOver}, {least, 0, 0, api.ErrOver},
	})
}

func TestNeg(t *testing.T) {
	for _, n := range edges() {
		want, no := exact(new(big.Int).Neg(big.NewInt(n)))
		if got, e := num.Neg(n); got != want || e != no {
			t.Errorf("Neg(%d): %d, %d, not %d, %d", n, got, e, want, no)
		}
	}
	for _, x := range []struct {
		n, want int64
		e       api.Errno
	}{{0, 0, api.OK}, {1, -1, api.OK}, {-1, 1, api.OK}, {most, least + 1, api.OK}, {least + 1, most, api.OK}, {least, 0, api.ErrOver}} {
		if got, e := num.Neg(x.n); got != x.want || e != x.e {
			t.Errorf("Neg(%d): %d, %d, not %d, %d", x.n, got, e, x.want, x.e)
		}
	}
}

func TestEachTwoEdges(t *testing.T) {
	l := edges()
	for _, a := range l {
		for _, b := range l {
			wantExact(t, a, b)
		}
	}
}

func TestEachTwoSmallOnes(t *testing.T) {
	for a := int64(-40); a <= 40; a++ {
		for b := int64(-40); b <= 40; b++ {
			wantExact(t, a, b)
		}
	}
}

func TestTwoAtRandom(t *testing.T) {
	r := rand.New(rand.NewSource(1))
	l := edges()
	for range 100000 {
		wantExact(t, anyOf(r, l), anyOf(r, l))
	}
}

// The greatest of each factor that is not beyond, and the next.
func TestMulAtItsEdge(t *testing.T) {
	for _, b := range edges() {
		if b == 0 {
			continue
		}
		for _, end := range []int64{least, most} {
			at := new(big.Int).Quo(big.NewInt(end), big.NewInt(b))
			for d := int64(-1); d <= 1; d++ {
				if a := new(big.Int).Add(at, big.NewInt(d)); a.IsInt64() {
					wantExact(t, a.Int64(), b)
					wantExact(t, b, a.Int64())
				}
			}
		}
	}
}

func TestSum(t *testing.T) {
	for _, x := range []struct {
		l    []int64
		want int64
		e    api.Errno
	}{
		{nil, 0, api.OK}, {[]int64{}, 0, api.OK},
		{[]int64{0}, 0, api.OK}, {[]int64{7}, 7, api.OK}, {[]int64{-7}, -7, api.OK}, {[]int64{most}, most, api.OK}, {[]int64{least}, least, api.OK},
		{[]int64{1, 2, 3}, 6, api.OK}, {[]int64{1, -2, 3, -4}, -2, api.OK}, {[]int64{0, 0, 0}, 0, api.OK},
		{[]int64{most, 1, -1}, most, api.OK}, {[]int64{1, most, -1}, most, api.OK}, {[]int64{most, -1, 1}, most, api.OK},
		{[]int64{least, -1, 1}, least, api.OK}, {[]int64{-1, least, 1}, least, api.OK},
		{[]int64{most, most, most, least, least, least}, -3, api.OK}, {[]int64{least, least, most, most, 2}, 0, api.OK},
		{[]int64{most, most, 2, least, least}, 0, api.OK}, {[]int64{most, most, -most}, most, api.OK}, {[]int64{least, least, most, 1}, least, api.OK},

		{[]int64{most, 1}, 0, api.ErrOver}, {[]int64{1, most}, 0, api.ErrOver}, {[]int64{least, -1}, 0, api.ErrOver}, {[]int64{-1, least}, 0, api.ErrOver},
		{[]int64{most, most}, 0, api.ErrOver}, {[]int64{least, least}, 0, api.ErrOver}, {[]int64{most, most, 2}, 0, api.ErrOver}, // of 64 bits the last three would be -2, 0 and 0
		{[]int64{most, 1, -1, 1}, 0, api.ErrOver}, {[]int64{least, 1, -1, -1}, 0, api.ErrOver}, {[]int64{least, least, least, least}, 0, api.ErrOver},
		{[]int64{1 << 62, 1 << 62, 1 << 62, 1 << 62}, 0, api.ErrOver}, {[]int64{-1 << 62, -1 << 62, -1 << 62, -1 << 62}, 0, api.ErrOver},
	} {
		if got, e := num.Sum(x.l); got != x.want || e != x.e {
			t.Errorf("Sum(%d): %d, %d, not %d, %d", x.l, got, e, x.want, x.e)
		}
		wantSum(t, x.l)
	}
}

func TestSumOfOneAndOfTwo(t *testing.T) {
	l := edges()
	for _, a := range l {
		wantSum(t, []int64{a})
		for _, b := range l {
			wantSum(t, []int64{a, b})
		}
	}
}

// repeated has n so many times.
func repeated(n int64, times int) []int64 { return slices.Repeat([]int64{n}, times) }

// What is between goes beyond by far, and comes back to just within and just beyond.
func TestSumFarBeyondBetween(t *testing.T) {
	const times = 100000
	up, down := repeated(most, times), repeated(-most, times)
	for _, last := range [][]int64{nil, {most}, {least}, {most, 1}, {least, -1}, {most, 1, -1}} {
		wantSum(t, slices.Concat(up, down, last))
		wantSum(t, slices.Concat(down, up, last))
		wantSum(t, slices.Concat(last, up, down))
		wantSum(t, slices.Concat(repeated(least, times), up, repeated(1, times), last))
	}
	for k := 1; k <= 9; k++ {
		wantSum(t, repeated(least, 1<<k))
		wantSum(t, repeated(1<<62, 1<<k))
		wantSum(t, repeated(most, 1<<k))
		wantSum(t, append(repeated(most, 1<<k), 1<<k))
	}
}

func TestSumAtRandom(t *testing.T) {
	r := rand.New(rand.NewSource(2))
	edge := edges()
	for range 20000 {
		var l []int64
		for range r.Intn(9) {
			l = append(l, anyOf(r, edge))
		}
		wantSum(t, l)
		r.Shuffle(len(l), func(i, j int) { l[i], l[j] = l[j], l[i] })
		wantSum(t, l)
		for i := range l { // and take all of it off again
			l = append(l, -l[i])
		}
		wantSum(t, l)
	}
}

func TestSumLeavesItsListAlone(t *testing.T) {
	room := []int64{most, 1, -1, 5, 6, 7}
	kept := slices.Clone(room)
	for range 2 {
		if got, e := num.Sum(room[:3]); got != most || e != api.OK {
			t.Errorf("Sum(%d): %d, %d", room[:3], got, e)
		}
	}
	if !slices.Equal(room, kept) {
		t.Errorf("changed: %d", room)
	}
}

// P4.2

func TestText(t *testing.T) {
	for _, x := range []struct {
		n    int64
		want string
	}{
		{0, "0"}, {1, "1"}, {-1, "-1"}, {9, "9"}, {10, "10"}, {-10, "-10"}, {907, "907"}, {-100, "-100"}, {1234567890, "1234567890"},
		{most, "9223372036854775807"}, {most - 1, "9223372036854775806"}, {least, "-9223372036854775808"}, {least + 1, "-9223372036854775807"},
		{1000000000000000000, "1000000000000000000"}, {999999999999999999, "999999999999999999"}, {-1000000000000000000, "-1000000000000000000"},
	} {
		if got := num.Text(x.n); got != x.want {
			t.Errorf("Text(%d): %q, not %q", x.n, got, x.want)
		}
		if got, e := num.Parse(x.want); got != x.n || e != api.OK {
			t.Errorf("Parse(%q): %d, %d, not %d", x.want, got, e, x.n)
		}
	}
}

func TestTextIsTheUsualOne(t *testing.T) {
	for _, n := range edges() {
		if got, want := num.Text(n), strconv.FormatInt(n, 10); got != want {
			t.Errorf("Text(%d): %q", n, got)
		}
	}
}

func TestParseRefuses(t *testing.T) {
	nines := strings.Repeat("9", 1000)
	for _, x := range []struct {
		s string
		e api.Errno
	}{
		{"", api.ErrForm}, {"-", api.ErrForm}, {"--", api.ErrForm}, {"--1", api.ErrForm}, {"1-", api.ErrForm}, {"1-1", api.ErrForm},
		{"-0", api.ErrForm}, {"00", api.ErrForm}, {"01", api.ErrForm}, {"-01", api.ErrForm}, {"-00", api.ErrForm}, {"000", api.ErrForm}, {"007", api.ErrForm},
		{"+", api.ErrForm}, {"+1", api.ErrForm}, {"+0", api.ErrForm}, {"-+1", api.ErrForm}, {"+-1", api.ErrForm},
		{" ", api.ErrForm}, {" 1", api.ErrForm}, {"1 ", api.ErrForm}, {"- 1", api.ErrForm}, {"1 2", api.ErrForm}, {"\t1", api.ErrForm}, {"1\n", api.ErrForm}, {"1\r\n", api.ErrForm},
		{"a", api.ErrForm}, {"1a", api.ErrForm}, {"a1", api.ErrForm}, {"-a", api.ErrForm}, {"/", api.ErrForm}, {":", api.ErrForm}, {"1/", api.ErrForm}, {"1:", api.ErrForm},
		{"1.0", api.ErrForm}, {"1.", api.ErrForm}, {".5", api.ErrForm}, {"1e3", api.ErrForm}, {"1_000", api.ErrForm}, {"1,000", api.ErrForm}, {"0x10", api.ErrForm}, {"0b1", api.ErrForm}, {"0o7", api.ErrForm},
		{"\x00", api.ErrForm}, {"1\x00", api.ErrForm}, {"\xff", api.ErrForm}, {"1\xb0", api.ErrForm}, {"\u22121", api.ErrForm}, {"\u0661", api.ErrForm}, {"\uff11", api.ErrForm}, {"1\u0660", api.ErrForm},
		{"nil", api.ErrForm}, {"'1'", api.ErrForm},

		// long enough to be beyond, but no such text
		{nines + "x", api.ErrForm}, {"x" + nines, api.ErrForm}, {nines + " ", api.ErrForm}, {nines + "-", api.ErrForm}, {nines + "x" + nines, api.ErrForm}, {"+" + nines, api.ErrForm}, {"--" + nines, api.ErrForm},
		{"0" + nines, api.ErrForm}, {"-0" + nines, api.ErrForm}, {"09223372036854775808", api.ErrForm}, {"00000000000000000000", api.ErrForm}, {"-00000000000000000001", api.ErrForm},
		{"9223372036854775808x", api.ErrForm}, {"922337203685477580x", api.ErrForm}, {"-9223372036854775809 ", api.ErrForm},

		{"9223372036854775808", api.ErrOver}, {"-9223372036854775809", api.ErrOver}, {"9223372036854775809", api.ErrOver}, {"9223372036854775810", api.ErrOver}, {"-9223372036854775810", api.ErrOver}, {"9300000000000000000", api.ErrOver},
		{"9999999999999999999", api.ErrOver}, {"-9999999999999999999", api.ErrOver}, {"10000000000000000000", api.ErrOver}, {"-10000000000000000000", api.ErrOver},
		{"18446744073709551615", api.ErrOver}, {"18446744073709551616", api.ErrOver}, {"18446744073709551617", api.ErrOver}, {"-18446744073709551617", api.ErrOver}, // 2^64 and those beside it
		{"27670116110564327425", api.ErrOver}, {"340282366920938463463374607431768211456", api.ErrOver}, {"340282366920938463463374607431768211463", api.ErrOver}, // 2^128, and that and 7
		{nines, api.ErrOver}, {"-" + nines, api.ErrOver}, {"1" + strings.Repeat("0", 1000), api.ErrOver}, {"-1" + strings.Repeat("0", 64), api.ErrOver}, {strings.Repeat("1", 1<<20), api.ErrOver},
	} {
		if got, e := num.Parse(x.s); got != 0 || e != x.e {
			t.Errorf("Parse(%.60q): %d, %d, not 0, %d", x.s, got, e, x.e)
		}
	}
}

// model reads by the chapter's words, by other means.
func model(s string) (int64, api.Errno) {
	x, ok := new(big.Int).SetString(s, 10)
	if !ok || x.String() != s {
		return 0, api.ErrForm
	}
	return exact(x)
}

func wantAsModel(t *testing.T, s string) {
	t.Helper()
	want, no := model(s)
	if got, e := num.Parse(s); got != want || e != no {
		t.Errorf("Parse(%.60q): %d, %d, not %d, %d", s, got, e, want, no)
	}
}

func TestEachShortText(t *testing.T) {
	wantAsModel(t, "")
	for a := range 256 {
		wantAsModel(t, string([]byte{byte(a)}))
		for b := range 256 {
			wantAsModel(t, string([]byte{byte(a), byte(b)}))
			wantAsModel(t, string([]byte{'-', byte(a), byte(b)}))
			wantAsModel(t, string([]byte{'1', byte(a), byte(b)}))
		}
	}
}

// Each byte in the place of each of a text, and ahead of it.
func TestTextsWithOneOtherByte(t *testing.T) {
	for _, s := range []string{"0", "-1", "907", "9223372036854775807", "-9223372036854775808", "9223372036854775808", "123456789012345678901234567890"} {
		for i := range s {
			for c := range 256 {
				one := string([]byte{byte(c)})
				wantAsModel(t, s[:i]+one+s[i+1:])
				wantAsModel(t, s[:i]+one+s[i:])
			}
		}
	}
}

// 200 to either side of each end, and of where 64 bits end.
func TestParseAroundTheEnds(t *testing.T) {
	two64 := new(big.Int).Lsh(big.NewInt(1), 64)
	for _, mid := range []*big.Int{big.NewInt(least), big.NewInt(0), big.NewInt(most), two64, new(big.Int).Neg(two64), new(big.Int).Lsh(two64, 64)} {
		for d := int64(-200); d <= 200; d++ {
			wantAsModel(t, new(big.Int).Add(mid, big.NewInt(d)).String())
		}
	}
}

func TestParseAtRandom(t *testing.T) {
	r := rand.New(rand.NewSource(3))
	const signs = "0123456789012345678901234567890-+ x"
	for range 100000 {
		b := make([]byte, r.Intn(24))
		for i := range b {
			b[i] = signs[r.Intn(len(signs)-4*min(i, 1))] // signs other than digits come first, if at all
		}
		wantAsModel(t, string(b))
	}
}

// P4.3

func TestWhatIsAddedIsTakenOff(t *testing.T) {
	l := edges()
	for _, a := range l {
		for _, b := range l {
			if n, e := num.Add(a, b); e == api.OK {
				if back, e := num.Sub(n, b); back != a || e != api.OK {
					t.Errorf("%d + %d - %d: %d, %d", a, b, b, back, e)
				}
			}
			if n, e := num.Sub(a, b); e == api.OK {
				if back, e := num.Add(n, b); back != a || e != api.OK {
					t.Errorf("%d - %d + %d: %d, %d", a, b, b, back, e)
				}
			}
		}
	}
}

// wantWhole: quotient times b and rest are a; the rest is nearer to 0 than b, and on a's side of it.
func wantWhole(t *testing.T, a, b int64) {
	t.Helper()
	rest, e := num.Mod(a, b)
	if e != api.OK {
		t.Errorf("Mod(%d, %d): %d", a, b, e)
	}
	if new(big.Int).Abs(big.NewInt(rest)).Cmp(new(big.Int).Abs(big.NewInt(b))) >= 0 || rest != 0 && (rest < 0) != (a < 0) {
		t.Errorf("Mod(%d, %d): %d", a, b, rest)
	}
	quotient, e := num.Div(a, b)
	if a == least && b == -1 {
		if quotient != 0 || e != api.ErrOver {
			t.Errorf("Div(%d, %d): %d, %d", a, b, quotient, e)
		}
		return
	}
	times, e1 := num.Mul(quotient, b)
	back, e2 := num.Add(times, rest)
	if back != a || e != api.OK || e1 != api.OK || e2 != api.OK {
		t.Errorf("%d by %d: %d times, rest %d: %d, with %d, %d, %d", a, b, quotient, rest, back, e, e1, e2)
	}
}

func TestQuotientAndRestAreTheWhole(t *testing.T) {
	r := rand.New(rand.NewSource(4))
	l := edges()
	for _, a := range l {
		for _, b := range l {
			if b != 0 {
				wantWhole(t, a, b)
			}
		}
		if b := anyOf(r, l); b != 0 {
			wantWhole(t, a, b)
		}
	}
}

func wantUndone(t *testing.T, n int64) {
	t.Helper()
	s := num.Text(n)
	if got, e := num.Parse(s); got != n || e != api.OK {
		t.Errorf("Parse(Text(%d)), %q: %d, %d", n, s, got, e)
	}
	if other := num.Text(n); other != s {
		t.Errorf("Text(%d): %q, then %q", n, s, other)
	}
}

func TestParseUndoesText(t *testing.T) {
	r := rand.New(rand.NewSource(5))
	l := edges()
	for _, n := range l {
		wantUndone(t, n)
	}
	for n := int64(-2000); n <= 2000; n++ {
		wantUndone(t, n)
	}
	for range 20000 {
		wantUndone(t, anyOf(r, l))
	}
}

func FuzzParse(f *testing.F) {
	for _, s := range []string{"", "-", "0", "-0", "01", "907", "9223372036854775807", "-9223372036854775808", "9223372036854775808", "+1", "1 "} {
		f.Add(s)
	}
	f.Fuzz(func(t *testing.T, s string) {
		wantAsModel(t, s)
		if n, e := num.Parse(s); e == api.OK && num.Text(n) != s {
			t.Errorf("Text(Parse(%q)): %q", s, num.Text(n))
		}
	})
}

func FuzzReckon(f *testing.F) {
	f.Add(int64(0), int64(0), int64(0))
	f.Add(int64(most), int64(1), int64(-1))
	f.Add(int64(least), int64(-1), int64(1))
	f.Add(int64(1<<62), int64(2), int64(least))
	f.Fuzz(func(t *testing.T, a, b, c int64) {
		wantExact(t, a, b)
		wantSum(t, []int64{a, b, c})
		wantUndone(t, a)
		if b != 0 {
			wantWhole(t, a, b)
		}
	})
}
