package wire_test

import (
	"bytes"
	"encoding/binary"
	"math"
	"math/rand"
	"strings"
	"testing"

	"haruspex/api"
	"haruspex/wire"
)

func writer(t *testing.T, most int) *wire.Writer {
	t.Helper()
	w, e := wire.NewWriter(most)
	if w == nil || e != api.OK {
		t.Fatalf("NewWriter(%d): %v, %d", most, w, e)
	}
	return w
}

func wantDone(t *testing.T, w *wire.Writer, want string) {
	t.Helper()
	if got := w.Done(); string(got) != want {
		t.Errorf("Done: %x, not %x", got, want)
	}
}

// sized is a way to write, and how many bytes that is.
type sized struct {
	name string
	size int
	do   func(w *wire.Writer) api.Errno
}

func num(n uint64, size int) sized {
	return sized{"Num", size, func(w *wire.Writer) api.Errno { return w.Num(n) }}
}

func integer(n int64, size int) sized {
	return sized{"Int", size, func(w *wire.Writer) api.Errno { return w.Int(n) }}
}

func text(s string, size int) sized {
	return sized{"Text", size, func(w *wire.Writer) api.Errno { return w.Text(s) }}
}

func one(c byte) sized {
	return sized{"Byte", 1, func(w *wire.Writer) api.Errno { return w.Byte(c) }}
}

func allSized() []sized {
	return []sized{
		num(0, 1), num(127, 1), num(128, 2), num(300, 2), num(math.MaxUint64, 10),
		integer(0, 1), integer(-64, 1), integer(64, 2), integer(math.MaxInt64, 10), integer(math.MinInt64, 10),
		one(0), one(127), one(128), one(255),
		text("", 1), text("ab", 3), text("a\x00\xff", 4), text(strings.Repeat("x", 127), 128), text(strings.Repeat("x", 128), 130),
	}
}

// P2.1

func TestNewWriter(t *testing.T) {
	for _, most := range []int{0, 1, 100, api.MaxWire - 1, api.MaxWire} {
		wantDone(t, writer(t, most), "")
	}
	for _, most := range []int{-1, math.MinInt, api.MaxWire + 1, math.MaxInt} {
		if w, e := wire.NewWriter(most); w != nil || e != api.ErrArg {
			t.Errorf("NewWriter(%d): %v, %d", most, w, e)
		}
	}
}

func TestWhatIsWritten(t *testing.T) {
	for _, x := range []struct {
		do   sized
		want string
	}{
		{num(0, 1), "\x00"}, {num(127, 1), "\x7f"}, {num(128, 2), "\x80\x01"}, {num(300, 2), "\xac\x02"},
		{num(math.MaxUint64, 10), "\xff\xff\xff\xff\xff\xff\xff\xff\xff\x01"},
		{integer(0, 1), "\x00"}, {integer(-3, 1), "\x05"}, {integer(3, 1), "\x06"}, {integer(150, 2), "\xac\x02"},
		{integer(math.MinInt64, 10), "\xff\xff\xff\xff\xff\xff\xff\xff\xff\x01"},
		{one(0), "\x00"}, {one(0x80), "\x80"}, {one(0xff), "\xff"},
		{text("", 1), "\x00"}, {text("ab", 3), "\x02ab"}, {text("\x00\xff", 3), "\x02\x00\xff"},
		{text(strings.Repeat("y", 300), 302), "\xac\x02" + strings.Repeat("y", 300)},
	} {
		w := writer(t, api.MaxWire)
		if e := x.do.do(w); e != api.OK {
			t.Errorf("%s: %d", x.do.name, e)
		}
		wantDone(t, w, x.want)
	}
}

func TestOneBehindTheOther(t *testing.T) {
	w := writer(t, 100)
	for i, e := range []api.Errno{w.Num(300), w.Int(-3), w.Byte(0xfe), w.Text("ab"), w.Text(""), w.Num(0)} {
		if e != api.OK {
			t.Errorf("call %d: %d", i, e)
		}
	}
	wantDone(t, w, "\xac\x02\x05\xfe\x02ab\x00\x00")
}

// What just fits is written; with one byte less of room nothing is, and what still fits can come behind it.
func TestBound(t *testing.T) {
	for _, ahead := range []int{0, 1, 7} {
		for _, x := range allSized() {
			w := writer(t, ahead+x.size)
			for range ahead {
				w.Byte('.')
			}
			if e := x.do(w); e != api.OK || len(w.Done()) != ahead+x.size {
				t.Errorf("%s of %d bytes: %d, %x", x.name, x.size, e, w.Done())
			}
			if e := w.Byte(1); e != api.ErrLong || len(w.Done()) != ahead+x.size {
				t.Errorf("a byte beyond the bound: %d, %x", e, w.Done())
			}

			w = writer(t, ahead+x.size-1)
			for range ahead {
				w.Byte('.')
			}
			if e := x.do(w); e != api.ErrLong {
				t.Errorf("%s of %d bytes, with room for one less: %d", x.name, x.size, e)
			}
			wantDone(t, w, strings.Repeat(".", ahead))
			for range x.size - 1 {
				if e := w.Byte('!'); e != api.OK {
					t.Errorf("a byte behind what was refused: %d", e)
				}
			}
			wantDone(t, w, strings.Repeat(".", ahead)+strings.Repeat("!", x.size-1))
		}
	}
}

func TestBoundOfNothing(t *testing.T) {
	w := writer(t, 0)
	for _, x := range allSized() {
		if e := x.do(w); e != api.ErrLong {
			t.Errorf("%s: %d", x.name, e)
		}
	}
	wantDone(t, w, "")
}

func TestGreatestBound(t *testing.T) {
	w := writer(t, api.MaxWire)
	if e := w.Text(strings.Repeat("z", api.MaxWire-2)); e != api.ErrLong { // its length has three bytes
		t.Errorf("Text: %d", e)
	}
	if e := w.Text(strings.Repeat("z", api.MaxWire)); e != api.ErrLong {
		t.Errorf("Text: %d", e)
	}
	if e := w.Text(strings.Repeat("z", api.MaxWire-3)); e != api.OK || len(w.Done()) != api.MaxWire {
		t.Errorf("Text: %d, %d bytes", e, len(w.Done()))
	}
	for _, x := range allSized() {
		if e := x.do(w); e != api.ErrLong || len(w.Done()) != api.MaxWire {
			t.Errorf("%s: %d, %d bytes", x.name, e, len(w.Done()))
		}
	}

	w = writer(t, api.MaxWire)
	for i := range api.MaxWire {
		if e := w.Byte(byte(i)); e != api.OK {
			t.Fatalf("byte %d: %d", i, e)
		}
	}
	if e := w.Byte(0); e != api.ErrLong || len(w.Done()) != api.MaxWire {
		t.Errorf("one byte more: %d, %d bytes", e, len(w.Done()))
	}
}

// More may come behind Done, and what it answered is neither changed by that nor shared.
func TestDoneIsNew(t *testing.T) {
	w := writer(t, 100)
	w.Text("ab")
	first, second := w.Done(), w.Done()
	w.Byte('c')
	third := append(w.Done(), 'd')
	w.Byte('e')
	if string(first) != "\x02ab" || string(second) != "\x02ab" || string(third) != "\x02abcd" {
		t.Errorf("Done: %x, %x, %x", first, second, third)
	}
	first[0], third[1] = 99, 99
	if string(second) != "\x02ab" {
		t.Errorf("two answers share memory: %x", second)
	}
	wantDone(t, w, "\x02abce")
}

func TestWritersAreApart(t *testing.T) {
	a, b := writer(t, 3), writer(t, 4)
	a.Byte('a')
	b.Byte('b')
	a.Byte('a')
	wantDone(t, a, "aa")
	wantDone(t, b, "b")
}

// P2.2

// took is what a call on a reader answered, as a number or a text, and where the reader stands behind it.
type took struct {
	n  uint64
	s  string
	e  api.Errno
	at int
}

// take makes the call that kind names (most is for n and t alone).
func take(r *wire.Reader, kind byte, most uint64) took {
	var x took
	switch kind {
	case 'n':
		x.n, x.e = r.Num(most)
	case 'i':
		i, e := r.Int()
		x.n, x.e = uint64(i), e
	case 'b':
		c, e := r.Byte()
		x.n, x.e = uint64(c), e
	case 't':
		x.s, x.e = r.Text(int(most))
	}
	x.at = r.At()
	return x
}

const ones = "\xff\xff\xff\xff\xff\xff\xff\xff\xff" // nine bytes, behind which the 64th bit alone may come

func TestTake(t *testing.T) {
	minus := func(n int) uint64 { return uint64(-n) }
	for _, x := range []struct {
		b    string
		kind byte
		most uint64
		want took
	}{
		{"\x00", 'n', 0, took{0, "", api.OK, 1}},
		{"\x01", 'n', 0, took{0, "", api.ErrForm, 0}},
		{"\xac\x02", 'n', 300, took{300, "", api.OK, 2}},
		{"\xac\x02", 'n', 299, took{0, "", api.ErrForm, 0}},
		{"\xac\x02", 'n', math.MaxUint64, took{300, "", api.OK, 2}},
		{ones + "\x01", 'n', math.MaxUint64, took{math.MaxUint64, "", api.OK, 10}},
		{ones + "\x01", 'n', math.MaxUint64 - 1, took{0, "", api.ErrForm, 0}},
		{"", 'n', 9, took{0, "", api.ErrShort, 0}},
		{"\xac", 'n', 9, took{0, "", api.ErrShort, 0}},
		{ones, 'n', math.MaxUint64, took{0, "", api.ErrShort, 0}},
		{"\x80\x00", 'n', 9, took{0, "", api.ErrForm, 0}},
		{ones + "\x02", 'n', math.MaxUint64, took{0, "", api.ErrForm, 0}},

		{"\x00", 'i', 0, took{0, "", api.OK, 1}},
		{"\x05", 'i', 0, took{minus(3), "", api.OK, 1}},
		{"\xac\x02", 'i', 0, took{150, "", api.OK, 2}},
		{ones + "\x01", 'i', 0, took{1 << 63, "", api.OK, 10}},
		{"\xfe" + ones[1:] + "\x01", 'i', 0, took{math.MaxInt64, "", api.OK, 10}},
		{"", 'i', 0, took{0, "", api.ErrShort, 0}},
		{"\x85", 'i', 0, took{0, "", api.ErrShort, 0}},
		{"\x85\x00", 'i', 0, took{0, "", api.ErrForm, 0}},
		{ones + "\x03", 'i', 0, took{0, "", api.ErrForm, 0}},

		{"\x00", 'b', 0, took{0, "", api.OK, 1}},
		{"\xff\x01", 'b', 0, took{255, "", api.OK, 1}},
		{"", 'b', 0, took{0, "", api.ErrShort, 0}},

		{"\x00", 't', 0, took{0, "", api.OK, 1}},
		{"\x02ab", 't', 2, took{0, "ab", api.OK, 3}},
		{"\x02abc", 't', math.MaxInt, took{0, "ab", api.OK, 3}},
		{"\x02\x00\xff", 't', 2, took{0, "\x00\xff", api.OK, 3}},
		{"\x02ab", 't', 1, took{0, "", api.ErrForm, 0}},
		{"\x02ab", 't', 0, took{0, "", api.ErrForm, 0}},
		{"\x02ab", 't', minus(1), took{0, "", api.ErrForm, 0}},
		{"\x00", 't', minus(1), took{0, "", api.ErrForm, 0}},
		{"\x00", 't', 1 << 63, took{0, "", api.ErrForm, 0}},
		{"", 't', 9, took{0, "", api.ErrShort, 0}},
		{"\x82", 't', 9, took{0, "", api.ErrShort, 0}},
		{"\x02", 't', 9, took{0, "", api.ErrShort, 0}},
		{"\x02a", 't', 9, took{0, "", api.ErrShort, 0}},
		{"\x02a", 't', 2, took{0, "", api.ErrShort, 0}},
		{"\x82\x00ab", 't', 9, took{0, "", api.ErrForm, 0}},
		{"\xac\x02" + strings.Repeat("q", 300), 't', 300, took{0, strings.Repeat("q", 300), api.OK, 302}},
		{"\xac\x02" + strings.Repeat("q", 300), 't', 299, took{0, "", api.ErrForm, 0}},
		{"\xac\x02" + strings.Repeat("q", 299), 't', 300, took{0, "", api.ErrShort, 0}},
		// Lengths that no int holds, or that would go round behind the place.
		{ones + "\x01ab", 't', math.MaxInt, took{0, "", api.ErrShort, 0}},
		{"\xfe" + ones[1:] + "\x01ab", 't', math.MaxInt, took{0, "", api.ErrShort, 0}},
		{"\xff\xff\xff\xff\xff\xff\xff\xff\x7fab", 't', math.MaxInt, took{0, "", api.ErrShort, 0}},
		// Missing bytes are named ahead of a length above the bound.
		{"\x02a", 't', 1, took{0, "", api.ErrShort, 0}},
		{"\x02", 't', minus(1), took{0, "", api.ErrShort, 0}},
		{"", 't', minus(1), took{0, "", api.ErrShort, 0}},
	} {
		for _, ahead := range []string{"", "\x80", "\x00\x81\x7f"} {
			r := wire.NewReader([]byte(ahead + x.b))
			for range ahead {
				r.Byte()
			}
			want := x.want
			want.at += len(ahead)
			if got := take(r, x.kind, x.most); got != want {
				t.Errorf("%c of %x behind %x, at most %d: %v, not %v", x.kind, x.b, ahead, x.most, got, want)
			}
		}
	}
}

// An error takes nothing: asked rightly, the reader still has it all.
func TestErrorTakesNothing(t *testing.T) {
	r := wire.NewReader([]byte("\x02ab\xac\x02\x85"))
	if _, e := r.Text(1); e != api.ErrForm || r.At() != 0 {
		t.Errorf("Text: %d, at %d", e, r.At())
	}
	if s, e := r.Text(2); s != "ab" || e != api.OK || r.At() != 3 {
		t.Errorf("Text: %q, %d, at %d", s, e, r.At())
	}
	if _, e := r.Num(299); e != api.ErrForm || r.At() != 3 {
		t.Errorf("Num: %d, at %d", e, r.At())
	}
	if n, e := r.Num(300); n != 300 || e != api.OK || r.At() != 5 {
		t.Errorf("Num: %d, %d, at %d", n, e, r.At())
	}
	for _, kind := range []byte("nit") {
		if got := take(r, kind, 9); got != (took{0, "", api.ErrShort, 5}) {
			t.Errorf("%c: %v", kind, got)
		}
	}
	if c, e := r.Byte(); c != 0x85 || e != api.OK || r.At() != 6 {
		t.Errorf("Byte: %d, %d, at %d", c, e, r.At())
	}
}

func TestAllTaken(t *testing.T) {
	for _, b := range [][]byte{nil, {}, []byte("x"), []byte("xyz")} {
		r := wire.NewReader(b)
		for i := range b {
			if e := r.End(); e != api.ErrForm || r.At() != i {
				t.Errorf("End with %d of %d bytes taken: %d, at %d", i, len(b), e, r.At())
			}
			r.Byte()
		}
		if e := r.End(); e != api.OK || r.At() != len(b) {
			t.Errorf("End with all of %d bytes taken: %d, at %d", len(b), e, r.At())
		}
		for _, kind := range []byte("nibt") {
			if got := take(r, kind, 0); got != (took{0, "", api.ErrShort, len(b)}) {
				t.Errorf("%c behind all of %d bytes: %v", kind, len(b), got)
			}
		}
		if e := r.End(); e != api.OK {
			t.Errorf("End behind errors: %d", e)
		}
	}
}

// A reader has no bound of its own: bytes beyond MaxWire are read, too.
func TestMoreThanAWriterWrites(t *testing.T) {
	s := strings.Repeat("w", api.MaxWire+1)
	b := append(binary.AppendUvarint(nil, uint64(len(s))), s...)
	r := wire.NewReader(b)
	if got, e := r.Text(len(s)); got != s || e != api.OK || r.End() != api.OK {
		t.Errorf("Text: %d bytes, %d", len(got), e)
	}
}

func TestReaderKeepsItsOwnBytes(t *testing.T) {
	b := []byte("\x02ab\x07\x09zzz")
	kept := bytes.Clone(b)
	r, other := wire.NewReader(b[:5]), wire.NewReader(b[:5])
	for _, kind := range []byte("tbn") {
		take(r, kind, 100)
	}
	if !bytes.Equal(b, kept) {
		t.Errorf("what was handed in became %x", b)
	}
	b[1], b[3], b[4] = 'X', 99, 0x80
	if got := take(other, 't', 2); got != (took{0, "ab", api.OK, 3}) {
		t.Errorf("Text of bytes that were changed behind NewReader: %v", got)
	}
	if got := take(other, 'b', 0); got != (took{7, "", api.OK, 4}) {
		t.Errorf("Byte of bytes that were changed behind NewReader: %v", got)
	}
	if got := take(other, 'n', 9); got != (took{9, "", api.OK, 5}) {
		t.Errorf("Num of bytes that were changed behind NewReader: %v", got)
	}
}

// P2.3

func TestNoWriter(t *testing.T) {
	for name, w := range map[string]*wire.Writer{"nil": nil, "new": new(wire.Writer), "literal": {}} {
		for range 2 {
			for _, x := range allSized() {
				if e := x.do(w); e != api.ErrZero {
					t.Errorf("%s of a writer that is %s: %d", x.name, name, e)
				}
			}
			if e := w.Text(strings.Repeat("x", api.MaxWire+1)); e != api.ErrZero {
				t.Errorf("Text of a writer that is %s: %d", name, e)
			}
			if b := w.Done(); len(b) != 0 {
				t.Errorf("Done of a writer that is %s: %x", name, b)
			}
		}
	}
}

func TestNoReader(t *testing.T) {
	for name, r := range map[string]*wire.Reader{"nil": nil, "new": new(wire.Reader), "literal": {}} {
		for range 2 {
			for _, kind := range []byte("nibt") {
				for _, most := range []uint64{0, 9, math.MaxUint64} {
					if got := take(r, kind, most); got != (took{0, "", api.ErrZero, 0}) {
						t.Errorf("%c of a reader that is %s: %v", kind, name, got)
					}
				}
			}
			if e := r.End(); e != api.ErrZero {
				t.Errorf("End of a reader that is %s: %d", name, e)
			}
		}
	}
}

// One of no bytes is made by a call, and so is not one that no call made.
func TestReaderOfNoBytesIsOne(t *testing.T) {
	for _, b := range [][]byte{nil, {}} {
		if e := wire.NewReader(b).End(); e != api.OK {
			t.Errorf("End: %d", e)
		}
	}
}

// P2.4

// done is one call on a writer.
type done struct {
	kind byte
	n    uint64
	s    string
}

func (d done) write(w *wire.Writer) api.Errno {
	switch d.kind {
	case 'n':
		return w.Num(d.n)
	case 'i':
		return w.Int(int64(d.n))
	case 'b':
		return w.Byte(byte(d.n))
	}
	return w.Text(d.s)
}

// bytes writes it by other means than the package's.
func (d done) bytes() []byte {
	switch d.kind {
	case 'n':
		return binary.AppendUvarint(nil, d.n)
	case 'i':
		return binary.AppendVarint(nil, int64(d.n))
	case 'b':
		return []byte{byte(d.n)}
	}
	return append(binary.AppendUvarint(nil, uint64(len(d.s))), d.s...)
}

// most is the least bound at which it is read.
func (d done) most() uint64 {
	if d.kind == 't' {
		return uint64(len(d.s))
	}
	return d.n
}

func someCall(by *rand.Rand) done {
	switch kind := "nibt"[by.Intn(4)]; kind {
	case 'b':
		return done{kind, uint64(by.Intn(256)), ""}
	case 't':
		s := make([]byte, by.Intn(1<<by.Intn(10)))
		by.Read(s)
		return done{kind, 0, string(s)}
	default:
		return done{kind, by.Uint64() >> by.Intn(64), ""}
	}
}

func TestWhatIsWrittenIsRead(t *testing.T) {
	by := rand.New(rand.NewSource(2))
	for range 2000 {
		most := by.Intn(400)
		w := writer(t, most)
		var want []byte
		var calls []done
		for range by.Intn(20) {
			d := someCall(by)
			b := d.bytes()
			e := api.OK
			if len(want)+len(b) > most {
				e = api.ErrLong
			} else {
				want = append(want, b...)
				calls = append(calls, d)
			}
			if got := d.write(w); got != e {
				t.Fatalf("%c of %d bytes behind %d of %d: %d, not %d", d.kind, len(b), len(want), most, got, e)
			}
		}
		if got := w.Done(); !bytes.Equal(got, want) {
			t.Fatalf("Done: %x, not %x", got, want)
		}
		readBack(t, w.Done(), calls)
	}
}

// readBack reads, call by call, what was written; ahead of each it asks with a bound that is too low, which takes nothing.
func readBack(t *testing.T, b []byte, calls []done) {
	t.Helper()
	r := wire.NewReader(b)
	at := 0
	for _, d := range calls {
		if (d.kind == 'n' || d.kind == 't') && d.most() > 0 {
			if got := take(r, d.kind, d.most()-1); got != (took{0, "", api.ErrForm, at}) {
				t.Fatalf("%c at %d of %x, at most %d: %v", d.kind, at, b, d.most()-1, got)
			}
		}
		at += len(d.bytes())
		if got := take(r, d.kind, d.most()); got != (took{d.n, d.s, api.OK, at}) {
			t.Fatalf("%c of %x: %v, not %v", d.kind, b, got, d)
		}
	}
	if e := r.End(); e != api.OK || r.At() != len(b) {
		t.Fatalf("End: %d, at %d of %d", e, r.At(), len(b))
	}
}

// Whatever the bytes and whatever is asked of them: what is taken is what a writer writes, and an error takes nothing.
func FuzzRead(f *testing.F) {
	f.Add([]byte("\x02ab\xac\x02\x05\xfe"), []byte("tnib"), uint64(300))
	f.Add([]byte(ones+"\x01ab"), []byte("ttn"), uint64(math.MaxUint64))
	f.Add([]byte("\x82\x00ab"), []byte("tnibbbbb"), uint64(0))
	f.Fuzz(func(t *testing.T, b, kinds []byte, most uint64) {
		r := wire.NewReader(b)
		for _, kind := range kinds {
			if !strings.ContainsRune("nibt", rune(kind)) {
				continue
			}
			at := r.At()
			got := take(r, kind, most)
			switch {
			case got.e != api.OK && got != (took{0, "", got.e, at}):
				t.Fatalf("%c at %d of %x: %v", kind, at, b, got)
			case got.e == api.OK && !bytes.Equal(done{kind, got.n, got.s}.bytes(), b[at:got.at]):
				t.Fatalf("%c at %d of %x: %v", kind, at, b, got)
			case got.e != api.OK && got.e != api.ErrShort && got.e != api.ErrForm:
				t.Fatalf("%c at %d of %x: %v", kind, at, b, got)
			}
			if (r.End() == api.OK) != (r.At() == len(b)) {
				t.Fatalf("End: %d, at %d of %d", r.End(), r.At(), len(b))
			}
		}
	})
}
