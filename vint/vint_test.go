package vint_test

import (
	"bytes"
	"encoding/binary"
	"math"
	"slices"
	"testing"

	"haruspex/api"
	"haruspex/vint"
)

// edges: around every number at which one more bit, and so perhaps one more byte, begins; sorted.
func edges() []uint64 {
	l := []uint64{0, 300, math.MaxUint64 - 1, math.MaxUint64}
	for i := range 64 {
		l = append(l, 1<<i-1, 1<<i, 1<<i+1)
	}
	slices.Sort(l)
	return slices.Compact(l)
}

func signedEdges() []int64 {
	l := []int64{0, 3, -3, math.MaxInt64, math.MaxInt64 - 1, math.MinInt64, math.MinInt64 + 1}
	for i := range 63 {
		l = append(l, 1<<i, -1<<i, 1<<i-1, -1<<i-1, -1<<i+1)
	}
	return l
}

// P1.1

func TestSize(t *testing.T) {
	for _, x := range []struct {
		n    uint64
		want int
	}{
		{0, 1}, {1, 1}, {127, 1}, {128, 2}, {300, 2}, {1<<14 - 1, 2}, {1 << 14, 3}, {1<<21 - 1, 3}, {1 << 21, 4},
		{1<<28 - 1, 4}, {1 << 28, 5}, {1<<35 - 1, 5}, {1 << 35, 6}, {1<<42 - 1, 6}, {1 << 42, 7}, {1<<49 - 1, 7}, {1 << 49, 8},
		{1<<56 - 1, 8}, {1 << 56, 9}, {1<<63 - 1, 9}, {1 << 63, 10}, {math.MaxUint64, 10},
	} {
		if got := vint.Size(x.n); got != x.want {
			t.Errorf("Size(%d): %d, not %d", x.n, got, x.want)
		}
	}
}

func TestPutBytes(t *testing.T) {
	for _, x := range []struct {
		b    []byte
		n    uint64
		want string
	}{
		{nil, 0, "\x00"},
		{[]byte{}, 0, "\x00"},
		{nil, 127, "\x7f"},
		{nil, 128, "\x80\x01"},
		{nil, 300, "\xac\x02"},
		{[]byte{0x80, 0x00}, 300, "\x80\x00\xac\x02"},
		{nil, 1 << 63, "\x80\x80\x80\x80\x80\x80\x80\x80\x80\x01"},
		{[]byte("ab"), math.MaxUint64, "ab\xff\xff\xff\xff\xff\xff\xff\xff\xff\x01"},
	} {
		if got := vint.Put(x.b, x.n); string(got) != x.want {
			t.Errorf("Put(%x, %d): %x, not %x", x.b, x.n, got, x.want)
		}
	}
}

func TestPutIsTheUsualWay(t *testing.T) {
	for _, n := range edges() {
		want := binary.AppendUvarint([]byte{7}, n)
		if got := vint.Put([]byte{7}, n); !bytes.Equal(got, want) {
			t.Errorf("Put(%d): %x, not %x", n, got, want)
		}
	}
}

func TestTurn(t *testing.T) {
	for _, x := range []struct {
		n    int64
		want uint64
	}{
		{0, 0}, {-1, 1}, {1, 2}, {-2, 3}, {2, 4}, {-3, 5}, {3, 6},
		{math.MaxInt64, math.MaxUint64 - 1}, {math.MinInt64, math.MaxUint64}, {math.MinInt64 + 1, math.MaxUint64 - 2},
	} {
		if got := vint.Turn(x.n); got != x.want {
			t.Errorf("Turn(%d): %d, not %d", x.n, got, x.want)
		}
		if got := vint.Back(x.want); got != x.n {
			t.Errorf("Back(%d): %d, not %d", x.want, got, x.n)
		}
	}
}

func TestTurnAndBackUndoEachOther(t *testing.T) {
	for _, n := range signedEdges() {
		if got := vint.Back(vint.Turn(n)); got != n {
			t.Errorf("Back(Turn(%d)): %d", n, got)
		}
	}
	for _, n := range edges() {
		if got := vint.Turn(vint.Back(n)); got != n {
			t.Errorf("Turn(Back(%d)): %d", n, got)
		}
	}
}

func TestPutInt(t *testing.T) {
	for _, n := range signedEdges() {
		want := binary.AppendVarint([]byte("x"), n)
		if got := vint.PutInt([]byte("x"), n); !bytes.Equal(got, want) {
			t.Errorf("PutInt(%d): %x, not %x", n, got, want)
		}
	}
	if got := vint.PutInt(nil, -3); string(got) != "\x05" {
		t.Errorf("PutInt(-3): %x", got)
	}
}

// The rules: what is handed in is not changed, and an answer shares no memory with it.
func TestPutLeavesItsBytesAlone(t *testing.T) {
	whole := []byte{1, 2, 3, 4, 5, 6, 7, 8, 9, 10, 11, 12, 13, 14}
	kept := bytes.Clone(whole)
	one := vint.Put(whole[:2], math.MaxUint64)
	two := vint.PutInt(whole[:2], math.MinInt64)
	three := vint.Put(whole[:2], 5)
	if !bytes.Equal(whole, kept) {
		t.Errorf("behind what was handed in: %x", whole)
	}
	if string(three) != "\x01\x02\x05" || !bytes.Equal(one, two) {
		t.Errorf("answers: %x, %x, %x", one, two, three)
	}
	one[0], two[1], three[2] = 99, 99, 99
	if !bytes.Equal(whole, kept) || two[0] != 1 || three[1] != 2 {
		t.Error("an answer shares memory")
	}
}

// P1.2

type got struct {
	n  uint64
	at int
	e  api.Errno
}

const ones = "\xff\xff\xff\xff\xff\xff\xff\xff\xff" // nine bytes, behind which the 64th bit alone may come

func TestGet(t *testing.T) {
	for _, x := range []struct {
		b    string
		at   int
		want got
	}{
		{"\x00", 0, got{0, 1, api.OK}},
		{"\x7f", 0, got{127, 1, api.OK}},
		{"\x80\x01", 0, got{128, 2, api.OK}},
		{"\xac\x02\x07", 0, got{300, 2, api.OK}},
		{"\xac\x02\x07", 1, got{2, 2, api.OK}},
		{"\xac\x02\x07", 2, got{7, 3, api.OK}},
		{"\x00\x00", 1, got{0, 2, api.OK}},
		{"\x80\x80\x01", 0, got{1 << 14, 3, api.OK}},
		{"\x80\x80\x80\x80\x80\x80\x80\x80\x80\x01", 0, got{1 << 63, 10, api.OK}},
		{"\x80\x80\x80\x80\x80\x80\x80\x80\x01\x00", 0, got{1 << 56, 9, api.OK}},
		{"xy" + ones + "\x01z", 2, got{math.MaxUint64, 12, api.OK}},

		{"", 0, got{0, 0, api.ErrShort}},
		{"abc", 3, got{0, 3, api.ErrShort}},
		{"\x80", 0, got{0, 1, api.ErrShort}},
		{"ab\xac", 2, got{0, 3, api.ErrShort}},
		{ones, 0, got{0, 9, api.ErrShort}},
		{"ab" + ones, 2, got{0, 11, api.ErrShort}},

		{"\x80\x00", 0, got{0, 1, api.ErrForm}},
		{"\x80\x00\x01", 0, got{0, 1, api.ErrForm}},
		{"\xff\x80\x00", 0, got{0, 2, api.ErrForm}},
		{"abc\xac\x82\x00", 3, got{0, 5, api.ErrForm}},
		{ones + "\x00", 0, got{0, 9, api.ErrForm}},
		{ones + "\x02", 0, got{0, 9, api.ErrForm}},
		{ones + "\x03", 0, got{0, 9, api.ErrForm}},
		{ones + "\x7f", 0, got{0, 9, api.ErrForm}},
		{ones + "\x80", 0, got{0, 9, api.ErrForm}},
		{ones + "\x81", 0, got{0, 9, api.ErrForm}},
		{ones + "\x81\x01", 0, got{0, 9, api.ErrForm}},
		{ones + ones, 0, got{0, 9, api.ErrForm}},
		{"a" + ones + "\x41", 1, got{0, 10, api.ErrForm}},

		{"", 1, got{0, 0, api.ErrArg}},
		{"", -1, got{0, 0, api.ErrArg}},
		{"\x01\x02", -1, got{0, 0, api.ErrArg}},
		{"\x01\x02", 3, got{0, 0, api.ErrArg}},
		{"\x80\x00", 3, got{0, 0, api.ErrArg}},
		{"\x01\x02", math.MaxInt, got{0, 0, api.ErrArg}},
		{"\x01\x02", math.MinInt, got{0, 0, api.ErrArg}},
	} {
		n, at, e := vint.Get([]byte(x.b), x.at)
		if (got{n, at, e}) != x.want {
			t.Errorf("Get(%x, %d): %v, not %v", x.b, x.at, got{n, at, e}, x.want)
		}
		i, at, e := vint.GetInt([]byte(x.b), x.at)
		if i != vint.Back(x.want.n) || at != x.want.at || e != x.want.e {
			t.Errorf("GetInt(%x, %d): %d, %d, %d, not Back of %v", x.b, x.at, i, at, e, x.want)
		}
	}
}

func TestGetOfNil(t *testing.T) {
	for _, x := range []struct {
		at int
		e  api.Errno
	}{{0, api.ErrShort}, {1, api.ErrArg}, {-1, api.ErrArg}} {
		if n, at, e := vint.Get(nil, x.at); n != 0 || at != 0 || e != x.e {
			t.Errorf("Get(nil, %d): %d, %d, %d", x.at, n, at, e)
		}
		if n, at, e := vint.GetInt(nil, x.at); n != 0 || at != 0 || e != x.e {
			t.Errorf("GetInt(nil, %d): %d, %d, %d", x.at, n, at, e)
		}
	}
}

func TestGetInt(t *testing.T) {
	for _, x := range []struct {
		b    string
		at   int
		n    int64
		next int
	}{
		{"\x00", 0, 0, 1}, {"\x01", 0, -1, 1}, {"\x02", 0, 1, 1}, {"\x01\x05", 1, -3, 2}, {"\x80\x01", 0, 64, 2},
		{ones + "\x01", 0, math.MinInt64, 10}, {"\xfe" + ones[1:] + "\x01", 0, math.MaxInt64, 10},
	} {
		if n, next, e := vint.GetInt([]byte(x.b), x.at); n != x.n || next != x.next || e != api.OK {
			t.Errorf("GetInt(%x, %d): %d, %d, %d, not %d, %d", x.b, x.at, n, next, e, x.n, x.next)
		}
	}
}

func TestGetLeavesItsBytesAlone(t *testing.T) {
	for _, s := range []string{"\xac\x02", "\x80\x00", ones + "\x02", "\xff"} {
		b := []byte(s)
		vint.Get(b, 0)
		vint.GetInt(b, 0)
		if string(b) != s {
			t.Errorf("%x became %x", s, b)
		}
	}
}

// Every proper beginning of a number is too short: none of its bytes may be refused while a number can still go on.
func TestBeginningsAreShort(t *testing.T) {
	for _, n := range edges() {
		b := vint.Put([]byte{0x80}, n)
		for end := 1; end < len(b); end++ {
			if m, at, e := vint.Get(b[:end], 1); m != 0 || at != end || e != api.ErrShort {
				t.Errorf("Get(%x, 1): %d, %d, %d", b[:end], m, at, e)
			}
		}
	}
}

// P1.3

func TestWhatIsPutIsGot(t *testing.T) {
	for _, n := range edges() {
		for ahead := range 3 {
			b := append(vint.Put(make([]byte, ahead), n), 0xff)
			if m, at, e := vint.Get(b, ahead); m != n || at != len(b)-1 || e != api.OK {
				t.Errorf("Get(%x, %d): %d, %d, %d, not %d", b, ahead, m, at, e, n)
			}
		}
	}
	for _, n := range signedEdges() {
		b := append(vint.PutInt([]byte{0x80}, n), 0)
		if m, at, e := vint.GetInt(b, 1); m != n || at != len(b)-1 || e != api.OK {
			t.Errorf("GetInt(%x, 1): %d, %d, %d, not %d", b, m, at, e, n)
		}
	}
}

func TestRowsOfNumbers(t *testing.T) {
	var b []byte
	for _, n := range edges() {
		b = vint.Put(b, n)
	}
	at := 0
	for _, n := range edges() {
		m, next, e := vint.Get(b, at)
		if m != n || next != at+vint.Size(n) || e != api.OK {
			t.Fatalf("Get at %d: %d, %d, %d, not %d", at, m, next, e, n)
		}
		at = next
	}
	if at != len(b) {
		t.Errorf("%d of %d bytes", at, len(b))
	}
}

func TestLessHasNoMoreBytes(t *testing.T) {
	last := 0
	for _, n := range edges() {
		size := vint.Size(n)
		if size < last || size != len(vint.Put(nil, n)) {
			t.Errorf("Size(%d): %d, behind %d; put: %d", n, size, last, len(vint.Put(nil, n)))
		}
		last = size
	}
}

// holds asks of any bytes what the usual reader of such numbers and the one way to write them say.
func holds(t *testing.T, b []byte) {
	n, at, e := vint.Get(b, 0)
	usual, size := binary.Uvarint(b)
	one := size > 0 && bytes.Equal(binary.AppendUvarint(nil, usual), b[:size])
	switch {
	case one != (e == api.OK):
		t.Errorf("Get(%x): %d, %d, %d; the usual reader: %d, %d", b, n, at, e, usual, size)
	case one && (n != usual || at != size || !bytes.Equal(vint.Put(nil, n), b[:size])):
		t.Errorf("Get(%x): %d, %d; the usual reader: %d, %d", b, n, at, usual, size)
	case !one && n != 0:
		t.Errorf("Get(%x): %d beside error %d", b, n, e)
	case e == api.ErrShort && at != len(b):
		t.Errorf("Get(%x): short at %d", b, at)
	case e == api.ErrForm:
		holdsAtFault(t, b, at)
	}
}

// holdsAtFault: up to the fault a number can still come, with it none can, whatever is behind.
func holdsAtFault(t *testing.T, b []byte, fault int) {
	if _, at, e := vint.Get(b[:fault], 0); at != fault || e != api.ErrShort {
		t.Errorf("Get(%x): %d, %d ahead of the fault", b[:fault], at, e)
	}
	for c := range 256 {
		long := append(bytes.Clone(b[:fault+1]), byte(c), 1)
		if _, at, e := vint.Get(long, 0); at != fault || e != api.ErrForm {
			t.Errorf("Get(%x): %d, %d, not the fault at %d", long, at, e, fault)
		}
	}
}

func TestOneWayToWrite(t *testing.T) {
	holds(t, nil)
	for a := range 256 {
		holds(t, []byte{byte(a)})
		for b := range 256 {
			holds(t, []byte{byte(a), byte(b)})
			holds(t, []byte{0x80, byte(a), byte(b)})
			holds(t, append([]byte(ones[:8]), byte(a), byte(b)))
			holds(t, append([]byte(ones), byte(a), byte(b)))
		}
	}
}

func FuzzGet(f *testing.F) {
	for _, n := range edges() {
		f.Add(vint.Put(nil, n))
	}
	f.Add([]byte(ones + "\x02"))
	f.Fuzz(func(t *testing.T, b []byte) {
		holds(t, b)
		for at := -1; at <= len(b)+1; at++ {
			n, next, e := vint.Get(b, at)
			i, nextInt, eInt := vint.GetInt(b, at)
			if i != vint.Back(n) || next != nextInt || e != eInt {
				t.Errorf("GetInt(%x, %d): %d, %d, %d; Get: %d, %d, %d", b, at, i, nextInt, eInt, n, next, e)
			}
		}
	})
}
