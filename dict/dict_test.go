package dict_test

import (
	"bytes"
	"encoding/binary"
	"fmt"
	"math"
	"math/rand"
	"slices"
	"strconv"
	"strings"
	"testing"
	"unsafe"

	"haruspex/api"
	"haruspex/dict"
	"haruspex/wire"
)

var (
	full = strings.Repeat("t", api.MaxText)
	over = strings.Repeat("t", api.MaxText+1)
	// ends are places, and mosts, that no dictionary has.
	ends = []int{-1, -2, math.MinInt, math.MinInt + 1, math.MinInt32, math.MaxInt, math.MaxInt - 1, math.MaxInt32, math.MaxUint32, math.MaxUint32 + 1}
	// odd are texts of which some are easily taken for one another.
	odd = []string{
		"a", "", "ab", "abc", "b", "aa", "A", " ", "a ", " a", "\x00", "\x00\x00", "a\x00", "\x00a", "\n", "'a'", "0", "1", "01",
		"\xff", "\xff\xfe", "\x80", "\xc3", "\xc3\xa4", "a\xcc\x88", "\xef\xbf\xbd", "\xed\xa0\x80", "\xf4\x90\x80\x80", "\u00e4", "e\u0301", "\u00e9",
		full, full[1:], full[2:], full[1:] + "u", "u" + full[1:], strings.Repeat("\x00", api.MaxText), strings.Repeat("\xff", api.MaxText), strings.Repeat("t", 127), strings.Repeat("t", 128),
	}
	longs = []string{over, over + "t", over + over, "u" + full, full + "\x00", strings.Repeat("\x00", api.MaxText+1), strings.Repeat("\u00e4", api.MaxText/2) + "a", strings.Repeat("t", api.MaxWire), strings.Repeat("t", 1<<20)}
)

func said(x any) string { return fmt.Sprintf("%.300s", fmt.Sprintf("%.40q", x)) }

// plain is a model of a dictionary: texts in a row, gone through from the first on.
type plain struct {
	most int
	l    []string
}

func (p *plain) add(s string) (int, api.Errno) {
	if i := slices.Index(p.l, s); i >= 0 {
		return i, 0
	}
	if len(s) > 256 || len(p.l) >= p.most {
		return 0, 2
	}
	p.l = append(p.l, s)
	return len(p.l) - 1, 0
}

// written are the bytes of texts, by other means than the package's.
func written(l []string) []byte {
	b := binary.AppendUvarint(nil, uint64(len(l)))
	for _, s := range l {
		b = append(binary.AppendUvarint(b, uint64(len(s))), s...)
	}
	return b
}

// numberAt reads a number that is written with as few bytes as may be.
func numberAt(b []byte, at int) (uint64, int, api.Errno) {
	n, k := binary.Uvarint(b[at:])
	switch {
	case k > 0 && bytes.Equal(binary.AppendUvarint(nil, n), b[at:at+k]):
		return n, at + k, 0
	case k != 0 || len(b)-at >= 10:
		return 0, at, 4
	}
	return 0, at, 3
}

// readBy tells the texts, how many bytes are taken, and the error, by the chapter's words.
func readBy(b []byte, most int) ([]string, int, api.Errno) {
	if most < 0 || most > 4096 {
		return nil, 0, 1
	}
	n, at, e := numberAt(b, 0)
	if e != 0 {
		return nil, 0, e
	}
	if n > uint64(most) {
		return nil, 0, 4
	}
	var l []string
	for range n {
		size, from, e := numberAt(b, at)
		switch {
		case e != 0:
			return nil, at, e
		case size > uint64(len(b)-from):
			return nil, at, 3
		case size > 256:
			return nil, at, 4
		}
		at = from + int(size)
		l = append(l, string(b[from:at]))
	}
	seen := slices.Clone(l)
	slices.Sort(seen)
	if len(slices.Compact(seen)) < len(l) {
		return nil, at, 4
	}
	return l, at, 0
}

func made(t *testing.T, most int) *dict.Dict {
	t.Helper()
	d, e := dict.New(most)
	if d == nil || e != api.OK {
		t.Fatalf("New(%d): %v, %d", most, d, e)
	}
	return d
}

// of has the texts of l, each of which must be there just once and fit.
func of(t *testing.T, most int, l ...string) *dict.Dict {
	t.Helper()
	d := made(t, most)
	for i, s := range l {
		wantAdd(t, d, s, i, api.OK)
	}
	return d
}

func writer(t *testing.T, most int) *wire.Writer {
	t.Helper()
	w, e := wire.NewWriter(most)
	if w == nil || e != api.OK {
		t.Fatalf("NewWriter(%d): %v, %d", most, w, e)
	}
	return w
}

func wantAdd(t *testing.T, d *dict.Dict, s string, want int, e api.Errno) {
	t.Helper()
	if i, got := d.Add(s); i != want || got != e {
		t.Fatalf("Add(%s): %d, %d, not %d, %d", said(s), i, got, want, e)
	}
}

// wantHas asks for all that d has, and for what it has not.
func wantHas(t *testing.T, d *dict.Dict, l ...string) {
	t.Helper()
	if n := d.Len(); n != len(l) {
		t.Fatalf("Len: %d, not %d", n, len(l))
	}
	for i, s := range l {
		if got, e := d.Get(i); got != s || e != api.OK {
			t.Fatalf("Get(%d): %s, %d, not %s", i, said(got), e, said(s))
		}
		if got, ok := d.Find(s); got != i || !ok {
			t.Fatalf("Find(%s): %d, %v, not %d", said(s), got, ok, i)
		}
	}
	for _, i := range append([]int{len(l), len(l) + 1, api.MaxEvents}, ends...) {
		if s, e := d.Get(i); (i < 0 || i >= len(l)) && (s != "" || e != api.ErrNone) {
			t.Fatalf("Get(%d) of %d texts: %s, %d", i, len(l), said(s), e)
		}
	}
}

func wantNot(t *testing.T, d *dict.Dict, l ...string) {
	t.Helper()
	for _, s := range l {
		if i, ok := d.Find(s); i != 0 || ok {
			t.Fatalf("Find(%s): %d, %v", said(s), i, ok)
		}
	}
}

func wantPut(t *testing.T, d *dict.Dict, want []byte) {
	t.Helper()
	w := writer(t, api.MaxWire)
	if e := d.Put(w); e != api.OK || !bytes.Equal(w.Done(), want) {
		t.Fatalf("Put: %d, %s, not %s", e, said(w.Done()), said(want))
	}
}

// wantRead holds what Read answers of b, and how many bytes it takes, against the model; it answers the dictionary.
func wantRead(t *testing.T, b []byte, most int) *dict.Dict {
	t.Helper()
	l, at, e := readBy(b, most)
	r := wire.NewReader(b)
	d, got := dict.Read(r, most)
	if got != e || r.At() != at || (d == nil) != (e != api.OK) {
		t.Fatalf("Read(%s, %d): %v, %d, at %d, not %d, at %d", said(b), most, d != nil, got, r.At(), e, at)
	}
	if e == api.OK {
		wantHas(t, d, l...)
	}
	return d
}

// wantRefused asks for an error of bytes by its number, beside the model's.
func wantRefused(t *testing.T, b string, most int, e api.Errno) {
	t.Helper()
	if d, got := dict.Read(wire.NewReader([]byte(b)), most); d != nil || got != e {
		t.Fatalf("Read(%s, %d): %v, %d, not %d", said(b), most, d, got, e)
	}
	wantRead(t, []byte(b), most)
}

// numbered has n texts, "0" and on.
func numbered(n int) []string {
	var l []string
	for i := range n {
		l = append(l, strconv.Itoa(i))
	}
	return l
}

// wide has n texts of just size bytes.
func wide(n, size int) []string {
	l := numbered(n)
	for i := range l {
		l[i] += strings.Repeat("_", size-len(l[i]))
	}
	return l
}

// someText is one of few, or of any bytes; it may be too long.
func someText(by *rand.Rand) string {
	switch by.Intn(4) {
	case 0:
		return odd[by.Intn(len(odd))]
	case 1:
		return strconv.Itoa(by.Intn(50))
	case 2:
		if by.Intn(4) == 0 {
			return longs[by.Intn(len(longs))]
		}
		return strings.Repeat("a", by.Intn(api.MaxText+2))
	}
	s := make([]byte, by.Intn(1<<by.Intn(10)))
	by.Read(s)
	return string(s)
}

// P23.1

func TestNew(t *testing.T) {
	for _, most := range []int{0, 1, 2, 100, api.MaxEvents - 1, api.MaxEvents} {
		d := made(t, most)
		wantHas(t, d)
		wantNot(t, d, odd...)
		wantPut(t, d, []byte{0})
	}
	for _, most := range append([]int{api.MaxEvents + 1, api.MaxEvents + 2, 2 * api.MaxEvents, api.MaxWire}, ends...) {
		if d, e := dict.New(most); d != nil || e != api.ErrArg {
			t.Errorf("New(%d): %v, %d", most, d, e)
		}
	}
}

// The document's example.
func TestTwoOfThree(t *testing.T) {
	d := made(t, api.MaxEvents)
	wantAdd(t, d, "a", 0, api.OK)
	wantAdd(t, d, "b", 1, api.OK)
	wantAdd(t, d, "a", 0, api.OK)
	wantHas(t, d, "a", "b")
}

func TestAdd(t *testing.T) {
	d, size := made(t, 3), 0
	for i, x := range []struct {
		s    string
		want int
		e    api.Errno
		size int
	}{
		{"", 0, api.OK, 1},        // the first
		{"", 0, api.OK, 1},        // it is there already
		{over, 0, api.ErrLong, 1}, // too long, with room
		{full, 1, api.OK, 2},      // as long as may be
		{over, 0, api.ErrLong, 2}, // the one ahead is its beginning
		{"", 0, api.OK, 2},
		{full, 1, api.OK, 2},
		{"c", 2, api.OK, 3},      // the last that there is room for
		{"d", 0, api.ErrLong, 3}, // one more
		{"c", 2, api.OK, 3},      // there already, with no room
		{full, 1, api.OK, 3},
		{"", 0, api.OK, 3},
		{over, 0, api.ErrLong, 3}, // too long, with no room
		{"d", 0, api.ErrLong, 3},  // and what was refused is not there
		{"cc", 0, api.ErrLong, 3},
		{full[1:], 0, api.ErrLong, 3},
		{"c", 2, api.OK, 3},
	} {
		if d.Len() != size {
			t.Fatalf("Len ahead of call %d: %d, not %d", i, d.Len(), size)
		}
		wantAdd(t, d, x.s, x.want, x.e)
		size = x.size
		if d.Len() != size {
			t.Fatalf("Len behind call %d: %d, not %d", i, d.Len(), size)
		}
	}
	wantHas(t, d, "", full, "c")
	wantNot(t, d, over, "d", "cc", full[1:])
}

// At each most as many texts go in as that is, and one more does not.
func TestRoom(t *testing.T) {
	for _, most := range []int{0, 1, 2, 3, 7, 8, 9, 255, 256, 257, api.MaxEvents - 1, api.MaxEvents} {
		l := numbered(most)
		d := of(t, most, l...)
		for _, s := range []string{"", "x", strconv.Itoa(most), full, over} {
			wantAdd(t, d, s, 0, api.ErrLong)
			wantNot(t, d, s)
		}
		for i, s := range l {
			wantAdd(t, d, s, i, api.OK)
		}
		wantHas(t, d, l...)
	}
}

func TestNoRoomAtAll(t *testing.T) {
	d := made(t, 0)
	for _, s := range slices.Concat(odd, longs) {
		wantAdd(t, d, s, 0, api.ErrLong)
		wantNot(t, d, s)
	}
	wantHas(t, d)
	wantPut(t, d, []byte{0})
}

func TestLongTexts(t *testing.T) {
	d := made(t, api.MaxEvents)
	for _, s := range longs {
		wantAdd(t, d, s, 0, api.ErrLong)
		wantNot(t, d, s)
		wantHas(t, d)
	}
	var l []string
	for n := range api.MaxText + 3 {
		s := strings.Repeat("n", n)
		if n > api.MaxText {
			wantAdd(t, d, s, 0, api.ErrLong)
			continue
		}
		wantAdd(t, d, s, n, api.OK)
		l = append(l, s)
	}
	wantHas(t, d, l...)
	wantPut(t, d, written(l))
}

// Texts are by their bytes, whatever runes these make.
func TestOddTexts(t *testing.T) {
	l := slices.Clone(odd)
	slices.Sort(l)
	l = slices.Compact(l)
	by := rand.New(rand.NewSource(23))
	for range 20 {
		by.Shuffle(len(l), func(i, j int) { l[i], l[j] = l[j], l[i] })
		d := of(t, len(l), l...)
		for i, s := range l {
			wantAdd(t, d, s, i, api.OK)
		}
		wantHas(t, d, l...)
		wantPut(t, d, written(l))
		wantRead(t, written(l), len(l))
	}
	var all []string
	for c := range 256 {
		all = append(all, string([]byte{byte(c)}), string([]byte{byte(c), 'a'}), string([]byte{'a', byte(c), 0}))
	}
	d := of(t, len(all), all...)
	wantHas(t, d, all...)
	wantPut(t, d, written(all))
}

func TestGet(t *testing.T) {
	d := of(t, 5, "a", "", "b")
	for _, x := range []struct {
		i int
		s string
		e api.Errno
	}{
		{0, "a", api.OK}, {1, "", api.OK}, {2, "b", api.OK},
		{3, "", api.ErrNone}, {4, "", api.ErrNone}, {5, "", api.ErrNone}, {6, "", api.ErrNone}, {-1, "", api.ErrNone},
		{math.MaxInt, "", api.ErrNone}, {math.MinInt, "", api.ErrNone},
	} {
		if s, e := d.Get(x.i); s != x.s || e != x.e {
			t.Errorf("Get(%d): %q, %d", x.i, s, e)
		}
	}
	for _, most := range []int{0, 1, api.MaxEvents} {
		for _, i := range append([]int{0, 1, most}, ends...) {
			if s, e := made(t, most).Get(i); s != "" || e != api.ErrNone {
				t.Errorf("Get(%d) of no texts, of most %d: %q, %d", i, most, s, e)
			}
		}
	}
}

// What is asked changes nothing.
func TestAsking(t *testing.T) {
	d := of(t, 4, "a", "b")
	for range 3 {
		wantNot(t, d, "c", "", over, "ab")
		wantHas(t, d, "a", "b")
	}
	wantAdd(t, d, "c", 2, api.OK)
	wantNot(t, d, "", over, "ab")
	wantHas(t, d, "a", "b", "c")
}

// Each row of calls over few texts, with each most.
func TestAllShortRows(t *testing.T) {
	few := []string{"a", "", "ab", over}
	for most := range 5 {
		rows := []string{""}
		for range 5 {
			var next []string
			for _, row := range rows {
				for i := range few {
					next = append(next, row+string(rune('0'+i)))
				}
			}
			rows = next
		}
		for _, row := range rows {
			d, p := made(t, most), &plain{most: most}
			for _, c := range row {
				s := few[c-'0']
				i, e := p.add(s)
				wantAdd(t, d, s, i, e)
				wantHas(t, d, p.l...)
			}
			wantPut(t, d, written(p.l))
		}
	}
}

func TestCallsAtRandom(t *testing.T) {
	by := rand.New(rand.NewSource(231))
	for range 300 {
		most := by.Intn(1 << by.Intn(8))
		d, p := made(t, most), &plain{most: most}
		for range by.Intn(100) {
			s := someText(by)
			if _, ok := d.Find(s); ok != slices.Contains(p.l, s) {
				t.Fatalf("Find(%s): %v", said(s), ok)
			}
			i, e := p.add(s)
			wantAdd(t, d, s, i, e)
			if d.Len() != len(p.l) {
				t.Fatalf("Len: %d, not %d", d.Len(), len(p.l))
			}
		}
		wantHas(t, d, p.l...)
	}
}

func TestDictsAreApart(t *testing.T) {
	a, b := made(t, 3), made(t, 2)
	wantAdd(t, a, "a", 0, api.OK)
	wantAdd(t, b, "b", 0, api.OK)
	wantAdd(t, a, "c", 1, api.OK)
	wantAdd(t, b, "a", 1, api.OK)
	wantAdd(t, a, "b", 2, api.OK)
	wantAdd(t, b, "c", 0, api.ErrLong)
	wantHas(t, a, "a", "c", "b")
	wantHas(t, b, "b", "a")
	c, e := dict.Read(wire.NewReader(written([]string{"a", "c", "b"})), 4)
	if e != api.OK {
		t.Fatalf("Read: %d", e)
	}
	wantAdd(t, c, "d", 3, api.OK)
	wantHas(t, a, "a", "c", "b")
	wantNot(t, a, "d")
}

// P23.2

func TestPut(t *testing.T) {
	for _, x := range []struct {
		l    []string
		want string
	}{
		{nil, "\x00"},
		{[]string{""}, "\x01\x00"},
		{[]string{"a"}, "\x01\x01a"},
		{[]string{"b", "a"}, "\x02\x01b\x01a"},
		{[]string{"a", "", "ab", "\xff\x00"}, "\x04\x01a\x00\x02ab\x02\xff\x00"},
		{[]string{full}, "\x01\x80\x02" + full},
		{[]string{full[:127], full[:128]}, "\x02\x7f" + full[:127] + "\x80\x01" + full[:128]},
		{wide(127, 3), "\x7f\x03" + strings.Join(wide(127, 3), "\x03")},
		{wide(128, 3), "\x80\x01\x03" + strings.Join(wide(128, 3), "\x03")},
		{wide(api.MaxEvents, 4), "\x80\x20\x04" + strings.Join(wide(api.MaxEvents, 4), "\x04")},
	} {
		d := of(t, api.MaxEvents, x.l...)
		for range 2 {
			wantPut(t, d, []byte(x.want))
		}
		wantHas(t, d, x.l...)
		if !bytes.Equal(written(x.l), []byte(x.want)) {
			t.Errorf("the model writes %s", said(written(x.l)))
		}
	}
}

// fits tells how many bytes there are ahead of the first number or text that no longer fits.
func fits(l []string, room int) int {
	size := len(binary.AppendUvarint(nil, uint64(len(l))))
	if size > room {
		return 0
	}
	for _, s := range l {
		more := len(binary.AppendUvarint(nil, uint64(len(s)))) + len(s)
		if size+more > room {
			break
		}
		size += more
	}
	return size
}

// With too little room the first error ends it: a shorter text behind the one that does not fit is not written.
func TestPutIntoLittleRoom(t *testing.T) {
	for _, l := range [][]string{nil, {""}, {"a"}, {"abc", "", "b"}, {"", "abcdef", "a", "bc"}, numbered(130), {full, "a", full[1:], ""}} {
		d := of(t, api.MaxEvents, l...)
		b := written(l)
		for _, ahead := range []string{"", "x", "\x80yz"} {
			for room := range len(b) + 3 {
				w := writer(t, len(ahead)+room)
				for _, c := range []byte(ahead) {
					w.Byte(c)
				}
				e, n := api.OK, len(b)
				if room < len(b) {
					e, n = api.ErrLong, fits(l, room)
				}
				want := ahead + string(b[:n])
				if got := d.Put(w); got != e || string(w.Done()) != want {
					t.Fatalf("Put of %s with room for %d of %d bytes: %d, %s, not %d, %s", said(l), room, len(b), got, said(w.Done()), e, said(want))
				}
				for i := len(want); i < len(ahead)+room; i++ {
					if e := w.Byte('!'); e != api.OK {
						t.Fatalf("a byte behind what was put: %d", e)
					}
				}
			}
		}
		wantHas(t, d, l...)
		wantPut(t, d, b)
	}
}

// As many bytes as a writer takes, and one more.
func TestPutOfAllThatAWriterTakes(t *testing.T) {
	l := wide(254, api.MaxText)
	d := of(t, api.MaxEvents, append(l, "a")...)
	w := writer(t, api.MaxWire)
	if e := d.Put(w); e != api.OK || len(w.Done()) != api.MaxWire {
		t.Errorf("Put: %d, %d bytes", e, len(w.Done()))
	}
	d = of(t, api.MaxEvents, append(l, "ab", "")...)
	w = writer(t, api.MaxWire)
	if e := d.Put(w); e != api.ErrLong || len(w.Done()) != api.MaxWire-2 {
		t.Errorf("Put: %d, %d bytes", e, len(w.Done()))
	}
	d = of(t, api.MaxEvents, wide(api.MaxEvents, api.MaxText)...)
	w = writer(t, api.MaxWire)
	if e := d.Put(w); e != api.ErrLong || len(w.Done()) != 2+254*(2+api.MaxText) {
		t.Errorf("Put: %d, %d bytes", e, len(w.Done()))
	}
}

func noWriters() map[string]*wire.Writer {
	return map[string]*wire.Writer{"nil": nil, "new": new(wire.Writer), "literal": {}}
}

func noReaders() map[string]*wire.Reader {
	return map[string]*wire.Reader{"nil": nil, "new": new(wire.Reader), "literal": {}}
}

func TestPutIntoNoWriter(t *testing.T) {
	for name, w := range noWriters() {
		for _, l := range [][]string{nil, {""}, {"a", "b"}, numbered(200)} {
			d := of(t, 200, l...)
			for range 2 {
				if e := d.Put(w); e != api.ErrZero || len(w.Done()) != 0 {
					t.Errorf("Put of %d texts into a writer that is %s: %d", len(l), name, e)
				}
			}
			wantHas(t, d, l...)
			wantPut(t, d, written(l))
		}
	}
}

func TestPutTwiceIntoOne(t *testing.T) {
	d := of(t, 3, "a", "bc")
	w := writer(t, 100)
	w.Byte(0x51)
	if e := d.Put(w); e != api.OK {
		t.Errorf("Put: %d", e)
	}
	wantAdd(t, d, "", 2, api.OK)
	if e := d.Put(w); e != api.OK {
		t.Errorf("Put: %d", e)
	}
	w.Num(300)
	want := "\x51\x02\x01a\x02bc\x03\x01a\x02bc\x00\xac\x02"
	if got := string(w.Done()); got != want {
		t.Errorf("Put twice: %x, not %x", got, want)
	}
	r := wire.NewReader([]byte(want))
	r.Byte()
	for n := 2; n <= 3; n++ {
		x, e := dict.Read(r, 3)
		if e != api.OK {
			t.Fatalf("Read: %d", e)
		}
		wantHas(t, x, []string{"a", "bc", ""}[:n]...)
	}
	if n, e := r.Num(300); n != 300 || e != api.OK || r.End() != api.OK {
		t.Errorf("Num behind them: %d, %d", n, e)
	}
}

func TestReadOfEachMost(t *testing.T) {
	for _, most := range []int{0, 1, 2, 3, 100, api.MaxEvents - 1, api.MaxEvents} {
		for _, l := range [][]string{nil, {""}, {"a", "b"}, {"a", "b", "c"}, numbered(100), numbered(101)} {
			b := written(l)
			wantRead(t, b, most)
			e := api.OK
			if len(l) > most {
				e = api.ErrForm
			}
			if _, got := dict.Read(wire.NewReader(b), most); got != e {
				t.Errorf("Read of %d texts, at most %d: %d, not %d", len(l), most, got, e)
			}
		}
	}
	for _, most := range append([]int{api.MaxEvents + 1, api.MaxWire}, ends...) {
		for _, b := range []string{"\x00", "\x01\x01a", "\x02\x01a\x01a", "", "\x80", "\x80\x00", "\xff\xff\xff\xff\xff\xff\xff\xff\xff\x01"} {
			wantRefused(t, b, most, api.ErrArg)
		}
		for name, r := range noReaders() {
			if d, e := dict.Read(r, most); d != nil || e != api.ErrArg {
				t.Errorf("Read of a reader that is %s, at most %d: %v, %d", name, most, d, e)
			}
		}
	}
}

// Each most that New takes, beside bytes that are right and some that are not.
func TestReadOfAllMosts(t *testing.T) {
	for most := range api.MaxEvents + 1 {
		wantHas(t, made(t, most))
		wantHas(t, wantRead(t, []byte{0}, most))
		wantRefused(t, "", most, api.ErrShort)
		wantRefused(t, "\x80\x00", most, api.ErrForm)
		wantRead(t, []byte("\x02\x01a\x00"), most)
		wantRead(t, []byte("\x02\x00\x00"), most)
		wantRead(t, binary.AppendUvarint(nil, uint64(most)), most)
		wantRefused(t, string(binary.AppendUvarint(nil, uint64(most+1))), most, api.ErrForm)
	}
}

func TestReadOfNoReader(t *testing.T) {
	for name, r := range noReaders() {
		for _, most := range []int{0, 1, api.MaxEvents} {
			for range 2 {
				if d, e := dict.Read(r, most); d != nil || e != api.ErrZero {
					t.Errorf("Read of a reader that is %s: %v, %d", name, d, e)
				}
			}
		}
	}
}

// A reader that was refused for most has all its bytes still.
func TestReadAgain(t *testing.T) {
	r := wire.NewReader([]byte("\x02\x01a\x00"))
	for _, most := range []int{-1, 1, api.MaxEvents + 1, 0} {
		if d, e := dict.Read(r, most); d != nil || e == api.OK || r.At() != 0 {
			t.Errorf("Read, at most %d: %v, %d, at %d", most, d, e, r.At())
		}
	}
	d, e := dict.Read(r, 2)
	if e != api.OK || r.End() != api.OK {
		t.Fatalf("Read: %d", e)
	}
	wantHas(t, d, "a", "")
}

func TestReadOfManyTexts(t *testing.T) {
	for _, n := range []int{1, 127, 128, 4000, api.MaxEvents - 1, api.MaxEvents} {
		b := written(numbered(n))
		wantHas(t, wantRead(t, b, n), numbered(n)...)
		wantRefused(t, string(b), n-1, api.ErrForm)
		wantHas(t, wantRead(t, b, api.MaxEvents), numbered(n)...)
	}
	wantRefused(t, string(written(numbered(api.MaxEvents+1))), api.MaxEvents, api.ErrForm)
	// A reader has no bound of its own: more is read than a writer takes.
	l := wide(api.MaxEvents, api.MaxText)
	wantHas(t, wantRead(t, written(l), api.MaxEvents), l...)
}

func TestReadOfLongTexts(t *testing.T) {
	for _, x := range []struct {
		l []string
		e api.Errno
	}{
		{[]string{full}, api.OK}, {[]string{over}, api.ErrForm},
		{[]string{"a", full, "b"}, api.OK}, {[]string{"a", over, "b"}, api.ErrForm}, {[]string{"a", "b", over}, api.ErrForm},
		{[]string{full, full[1:] + "u"}, api.OK}, {[]string{full, over}, api.ErrForm}, {[]string{over, over}, api.ErrForm},
		{[]string{strings.Repeat("\xff", 256)}, api.OK}, {[]string{strings.Repeat("\u00e4", 128)}, api.OK}, {[]string{strings.Repeat("\u00e4", 128) + "a"}, api.ErrForm},
	} {
		b := written(x.l)
		if _, e := dict.Read(wire.NewReader(b), 3); e != x.e {
			t.Errorf("Read(%s): %d, not %d", said(x.l), e, x.e)
		}
		wantRead(t, b, 3)
	}
	for _, s := range longs {
		wantRefused(t, string(written([]string{s})), 1, api.ErrForm)
	}
	// Missing bytes are named ahead of a length that is above the bound.
	wantRefused(t, string(written([]string{over}))[:api.MaxText], 1, api.ErrShort)
}

func TestReadOfTextsThatComeTwice(t *testing.T) {
	for _, l := range [][]string{
		{"a", "a"}, {"", ""}, {"a", "a", "b"}, {"b", "a", "a"}, {"a", "b", "a"}, {"", "a", ""}, {"a", "", ""}, {"a", "b", "a", "b"}, {"a", "a", "a"},
		{full, full}, {full, "a", full}, {"\xff", "\xff"}, {"\x00", "a", "\x00"},
		append(numbered(1000), "0"), append(numbered(1000), "999"), append(numbered(api.MaxEvents-1), "17"), append([]string{"17"}, numbered(20)...),
	} {
		b := string(written(l))
		wantRefused(t, b, len(l), api.ErrForm)
		wantRefused(t, b, api.MaxEvents, api.ErrForm)
		wantRefused(t, b+"\x02\x01a\x00", api.MaxEvents, api.ErrForm)
	}
	for _, l := range [][]string{{"a", "A"}, {"a", "aa"}, {"", "\x00"}, {"a", "a "}, {"\u00e9", "e\u0301"}, {full, full[1:]}} {
		wantHas(t, wantRead(t, written(l), 2), l...)
	}
	// wire's error is named ahead of that, though it comes behind.
	wantRefused(t, "\x03\x01a\x01a", 3, api.ErrShort)
	wantRefused(t, "\x03\x01a\x01a\x02b", 3, api.ErrShort)
	wantRefused(t, "\x03\x01a\x01a\x80", 3, api.ErrShort)
	wantRefused(t, "\x04\x00\x00\x00", 4, api.ErrShort)
	// How many there are is named ahead of all.
	wantRefused(t, "\x02\x01a\x01a", 1, api.ErrForm)
	r := wire.NewReader([]byte("\x03\x01a\x01a" + string(written([]string{over})[1:])))
	if d, e := dict.Read(r, 3); d != nil || e != api.ErrForm || r.At() != 5 {
		t.Errorf("Read: %v, %d, at %d: what is too long is not taken", d, e, r.At())
	}
}

func TestReadOfEachBeginning(t *testing.T) {
	for _, l := range [][]string{nil, {""}, {"a"}, {"abc", "", "b"}, numbered(130), {full, "a", full[1:], ""}} {
		b := written(l)
		for n := range b {
			wantRefused(t, string(b[:n]), api.MaxEvents, api.ErrShort)
		}
		wantHas(t, wantRead(t, b, api.MaxEvents), l...)
	}
}

func TestReadOfNumbersThatCantBe(t *testing.T) {
	nine := strings.Repeat("\xff", 9)
	for _, x := range []struct {
		b string
		e api.Errno
	}{
		{"\x80\x00", api.ErrForm}, {"\x81\x00", api.ErrForm}, {"\x82\x80\x00", api.ErrForm}, {nine + "\x02", api.ErrForm}, {nine + "\x00", api.ErrForm}, {nine + "\x81", api.ErrForm}, {nine + "\xff", api.ErrForm},
		{nine, api.ErrShort}, {"\x80", api.ErrShort}, {"\xff\xff", api.ErrShort},
	} {
		wantRefused(t, x.b, api.MaxEvents, x.e)
		wantRefused(t, "\x01"+x.b, api.MaxEvents, x.e)
		wantRefused(t, "\x03\x01a\x00"+x.b, api.MaxEvents, x.e)
		wantRefused(t, "\x03\x01a\x01a"+x.b, api.MaxEvents, x.e)
		if x.e == api.ErrForm {
			wantRefused(t, x.b+"\x01a\x01b\x01c", api.MaxEvents, x.e)
			wantRefused(t, "\x01"+x.b+"abcdefgh", api.MaxEvents, x.e)
		}
	}
	// Numbers that may be, but are above the bound: of texts, of a text's bytes.
	for _, n := range []uint64{api.MaxEvents + 1, 1 << 16, math.MaxInt32, 1 << 32, 1<<32 + 1, math.MaxInt64, 1 << 63, 1<<63 + 1, math.MaxUint64} {
		b := string(binary.AppendUvarint(nil, n))
		wantRefused(t, b, api.MaxEvents, api.ErrForm)
		wantRefused(t, b+"\x01a", api.MaxEvents, api.ErrForm)
		wantRefused(t, "\x01"+b+"a", api.MaxEvents, api.ErrShort)
	}
}

// What is behind the texts is the reader's still.
func TestBytesLeftBehind(t *testing.T) {
	for _, l := range [][]string{nil, {""}, {"a", "b"}, numbered(130)} {
		b := written(l)
		r := wire.NewReader(slices.Concat([]byte{7}, b, []byte("\x02\x00\x85")))
		if c, e := r.Byte(); c != 7 || e != api.OK {
			t.Fatalf("Byte: %d, %d", c, e)
		}
		d, e := dict.Read(r, 130)
		if e != api.OK || r.At() != 1+len(b) || r.End() != api.ErrForm {
			t.Fatalf("Read: %d, at %d", e, r.At())
		}
		wantHas(t, d, l...)
		if n, e := r.Num(9); n != 2 || e != api.OK {
			t.Errorf("Num: %d, %d", n, e)
		}
		if s, e := r.Text(9); s != "" || e != api.OK {
			t.Errorf("Text: %q, %d", s, e)
		}
		if c, e := r.Byte(); c != 0x85 || e != api.OK || r.End() != api.OK {
			t.Errorf("Byte: %d, %d", c, e)
		}
		wantHas(t, d, l...)
	}
}

// What was read goes on as what was made does, up to the most that Read was told.
func TestWhatWasRead(t *testing.T) {
	for _, n := range []int{0, 1, 2, 7} {
		for more := range 3 {
			l := numbered(n)
			most := n + more
			d := wantRead(t, written(l), most)
			p := &plain{most: most, l: slices.Clone(l)}
			for _, s := range []string{"x", "0", over, "", "x", "y", "0", "1", full, "z"} {
				i, e := p.add(s)
				wantAdd(t, d, s, i, e)
				wantHas(t, d, p.l...)
				wantPut(t, d, written(p.l))
			}
			if d.Len() != most {
				t.Errorf("Len: %d, not %d", d.Len(), most)
			}
			wantNot(t, d, "z", over, full)
		}
	}
	d := wantRead(t, written(numbered(api.MaxEvents)), api.MaxEvents)
	wantAdd(t, d, "x", 0, api.ErrLong)
	wantAdd(t, d, "17", 17, api.OK)
}

// All short bytes of a few.
func TestReadOfAllShortBytes(t *testing.T) {
	few := []byte{0, 1, 2, 3, 'a', 0x80, 0xff}
	all := [][]byte{{}}
	for from := 0; len(all) < 20000; {
		to := len(all)
		for _, b := range all[from:to] {
			for _, c := range few {
				all = append(all, append(slices.Clone(b), c))
			}
		}
		from = to
	}
	for _, b := range all {
		for most := range 4 {
			d := wantRead(t, b, most)
			if d != nil {
				wantPut(t, d, b[:len(written(texts(d)))])
			}
		}
	}
}

// texts are all of d, in order.
func texts(d *dict.Dict) []string {
	var l []string
	for i := range d.Len() {
		s, _ := d.Get(i)
		l = append(l, s)
	}
	return l
}

// P23.3

func TestNoDict(t *testing.T) {
	for name, d := range map[string]*dict.Dict{"nil": nil, "new": new(dict.Dict), "literal": {}} {
		for range 2 {
			for _, s := range slices.Concat(odd, longs) {
				if i, e := d.Add(s); i != 0 || e != api.ErrZero {
					t.Errorf("Add(%s) of one that is %s: %d, %d", said(s), name, i, e)
				}
				if i, ok := d.Find(s); i != 0 || ok {
					t.Errorf("Find(%s) of one that is %s: %d, %v", said(s), name, i, ok)
				}
			}
			for _, i := range append([]int{0, 1, api.MaxEvents}, ends...) {
				if s, e := d.Get(i); s != "" || e != api.ErrZero {
					t.Errorf("Get(%d) of one that is %s: %q, %d", i, name, s, e)
				}
			}
			if n := d.Len(); n != 0 {
				t.Errorf("Len of one that is %s: %d", name, n)
			}
			for _, room := range []int{0, 1, 100} {
				w := writer(t, room)
				if e := d.Put(w); e != api.ErrZero || len(w.Done()) != 0 {
					t.Errorf("Put of one that is %s: %d, %x", name, e, w.Done())
				}
			}
			for _, w := range noWriters() {
				if e := d.Put(w); e != api.ErrZero {
					t.Errorf("Put of one that is %s into no writer: %d", name, e)
				}
			}
		}
	}
}

// One of no texts, and of most 0, is made by a call, and so is not one that no call made.
func TestEmptyOneIsOne(t *testing.T) {
	read, e := dict.Read(wire.NewReader([]byte{0}), 0)
	if e != api.OK {
		t.Fatalf("Read: %d", e)
	}
	for _, d := range []*dict.Dict{made(t, 0), read} {
		wantAdd(t, d, "", 0, api.ErrLong)
		if s, e := d.Get(0); s != "" || e != api.ErrNone {
			t.Errorf("Get: %q, %d", s, e)
		}
		wantPut(t, d, []byte{0})
	}
}

// P23.4

// wantBack puts d, reads it, and puts that again.
func wantBack(t *testing.T, d *dict.Dict, l []string) {
	t.Helper()
	w := writer(t, api.MaxWire)
	if e := d.Put(w); e != api.OK {
		t.Fatalf("Put: %d", e)
	}
	for _, most := range []int{len(l), api.MaxEvents} {
		r := wire.NewReader(w.Done())
		back, e := dict.Read(r, most)
		if e != api.OK || r.End() != api.OK {
			t.Fatalf("Read: %d, at %d of %d", e, r.At(), len(w.Done()))
		}
		wantHas(t, back, l...)
		wantPut(t, back, w.Done())
	}
	wantHas(t, d, l...)
}

func TestReadUndoesPut(t *testing.T) {
	for _, l := range [][]string{nil, {""}, {"a"}, {"b", "a"}, {"a", ""}, {full}, {full, ""}, numbered(127), numbered(128), numbered(api.MaxEvents), wide(api.MaxEvents, 14), wide(254, api.MaxText)} {
		wantBack(t, of(t, api.MaxEvents, l...), l)
	}
	by := rand.New(rand.NewSource(234))
	for range 300 {
		most := by.Intn(1 << by.Intn(8))
		d, p := made(t, most), &plain{most: most}
		for range by.Intn(150) {
			s := someText(by)
			d.Add(s)
			p.add(s)
		}
		wantBack(t, d, p.l)
	}
}

// A text's number is the one that it was first given, whatever comes behind it, taken or refused.
func TestNumberStays(t *testing.T) {
	d := made(t, api.MaxEvents)
	l := numbered(api.MaxEvents)
	for i, s := range l {
		wantAdd(t, d, s, i, api.OK)
		wantAdd(t, d, over, 0, api.ErrLong)
		wantAdd(t, d, l[i/2], i/2, api.OK)
		if i&(i-1) == 0 || i%500 == 0 { // around the places where room may grow
			wantHas(t, d, l[:i+1]...)
		}
	}
	for range 3 {
		wantAdd(t, d, "x", 0, api.ErrLong)
		wantHas(t, d, l...)
	}
}

// Readings of one and the same bytes go on apart from one another, and from what was put.
func TestReadingsAreApart(t *testing.T) {
	l := []string{"a", "b", "c"}
	d := of(t, 5, l...)
	b := written(l)
	x, y := wantRead(t, b, 5), wantRead(t, b, 4)
	wantAdd(t, x, "x", 3, api.OK)
	wantAdd(t, y, "y", 3, api.OK)
	wantAdd(t, d, "d", 3, api.OK)
	wantAdd(t, x, "y", 4, api.OK)
	wantAdd(t, y, "x", 0, api.ErrLong)
	wantHas(t, x, "a", "b", "c", "x", "y")
	wantHas(t, y, "a", "b", "c", "y")
	wantHas(t, d, "a", "b", "c", "d")
}

// P4: what is handed in is neither changed nor kept.

// within tells whether the bytes of s lie in those of b.
func within(s string, b []byte) bool {
	at, from := uintptr(unsafe.Pointer(unsafe.StringData(s))), uintptr(unsafe.Pointer(unsafe.SliceData(b)))
	return s != "" && from <= at && at < from+uintptr(cap(b))
}

func TestTextIsNotKept(t *testing.T) {
	b := []byte("0123456789" + full)
	s := unsafe.String(unsafe.SliceData(b), len(b))
	if !within(s[3:5], b) {
		t.Fatal("a piece of a text is not found in it")
	}
	d := made(t, 10)
	parts := []string{s[:1], s[1:3], s[10:], s[10:11], s[5:5]}
	for i, p := range parts {
		wantAdd(t, d, p, i, api.OK)
		wantAdd(t, d, p, i, api.OK)
		d.Find(p)
	}
	wantAdd(t, d, s, 0, api.ErrLong)
	if string(b) != "0123456789"+full {
		t.Errorf("what was handed in became %s", said(b))
	}
	for i := range parts {
		if got, e := d.Get(i); e != api.OK || within(got, b) {
			t.Errorf("Get(%d): %s, %d, in the memory of what was handed in", i, said(got), e)
		}
	}
	clear(b)
	wantHas(t, d, "0", "12", full, "t", "")
	wantNot(t, d, s[:1], s[10:])
}

func TestBytesAreNotKept(t *testing.T) {
	b := []byte("\x02\x01a\x02bcrest")
	kept := bytes.Clone(b)
	r := wire.NewReader(b[:6])
	d, e := dict.Read(r, 3)
	if e != api.OK || !bytes.Equal(b, kept) {
		t.Fatalf("Read: %d; what was handed in became %x", e, b)
	}
	clear(b)
	wantAdd(t, d, "d", 2, api.OK)
	wantHas(t, d, "a", "bc", "d")
	w := writer(t, 100)
	d.Put(w)
	clear(w.Done())
	w.Byte(9)
	wantHas(t, d, "a", "bc", "d")
}

// P5: the same calls, the same answers.
func TestSameCallsSameAnswers(t *testing.T) {
	l := numbered(500)
	for range 20 {
		wantPut(t, of(t, 500, l...), written(l))
	}
}

// Whatever the bytes and the most: Read answers as the model, and Put writes what was taken.
func FuzzRead(f *testing.F) {
	f.Add([]byte("\x02\x01a\x00"), 2)
	f.Add([]byte("\x02\x01a\x01a"), 4096)
	f.Add([]byte("\x03\x01a\x01a\x05"), 3)
	f.Add(written([]string{full, "a", over}), 3)
	f.Add([]byte("\x80\x00"), 0)
	f.Add([]byte{}, -1)
	f.Fuzz(func(t *testing.T, b []byte, most int) {
		r := wire.NewReader(b)
		dict.Read(r, most)
		if d := wantRead(t, b, most); d != nil && len(b) <= api.MaxWire {
			wantPut(t, d, b[:r.At()])
		}
	})
}

// Whatever is added: all answers are the model's, and what is put is read.
func FuzzDict(f *testing.F) {
	f.Add("a,b,a", 2)
	f.Add("a,,ab,,a", 3)
	f.Add(full+","+over+",\xff", 0)
	f.Fuzz(func(t *testing.T, all string, most int) {
		d, e := dict.New(most)
		if most < 0 || most > 4096 {
			if d != nil || e != api.ErrArg {
				t.Fatalf("New(%d): %v, %d", most, d, e)
			}
			return
		}
		p := &plain{most: most}
		for _, s := range strings.Split(all, ",") {
			i, e := p.add(s)
			wantAdd(t, d, s, i, e)
		}
		wantHas(t, d, p.l...)
		if len(written(p.l)) <= api.MaxWire {
			wantBack(t, d, p.l)
		}
	})
}
