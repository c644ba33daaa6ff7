package frame_test

import (
	"bytes"
	"encoding/binary"
	"hash/crc32"
	"math"
	"math/rand"
	"slices"
	"testing"

	"haruspex/api"
	"haruspex/frame"
	"haruspex/vint"
)

// made is a frame by other means than the package's; it has no bound.
func made(b []byte) []byte {
	f := append(binary.AppendUvarint(nil, uint64(len(b))), b...)
	return binary.LittleEndian.AppendUint32(f, crc32.ChecksumIEEE(f))
}

func wrapped(t *testing.T, b []byte) []byte {
	t.Helper()
	f, e := frame.Wrap(b)
	if e != api.OK {
		t.Fatalf("Wrap of %d bytes: %d", len(b), e)
	}
	return f
}

func wantOpen(t *testing.T, b []byte, at int, want []byte, next int) {
	t.Helper()
	got, n, e := frame.Open(b, at)
	if !bytes.Equal(got, want) || n != next || e != api.OK {
		t.Errorf("Open(%s, %d): %s, %d, %d, not %s, %d", brief(b), at, brief(got), n, e, brief(want), next)
	}
}

func wantNotOpen(t *testing.T, b []byte, at, place int, want api.Errno) {
	t.Helper()
	if got, n, e := frame.Open(b, at); len(got) != 0 || n != place || e != want {
		t.Errorf("Open(%s, %d): %s, %d, %d, not none, %d, %d", brief(b), at, brief(got), n, e, place, want)
	}
}

func wantAll(t *testing.T, b []byte, want ...[]byte) {
	t.Helper()
	got, n, e := frame.All(b)
	if !slices.EqualFunc(got, want, bytes.Equal) || n != len(b) || e != api.OK {
		t.Errorf("All(%s): %d frames, %d, %d, not %d frames, %d", brief(b), len(got), n, e, len(want), len(b))
	}
}

func wantNotAll(t *testing.T, b []byte, place int, want api.Errno) {
	t.Helper()
	if got, n, e := frame.All(b); len(got) != 0 || n != place || e != want {
		t.Errorf("All(%s): %d frames, %d, %d, not none, %d, %d", brief(b), len(got), n, e, place, want)
	}
}

// brief keeps a report of a long frame readable.
func brief(b []byte) string {
	const digits = "0123456789abcdef"
	var s []byte
	for _, c := range b[:min(len(b), 24)] {
		s = append(s, digits[c>>4], digits[c&15])
	}
	if len(b) > 24 {
		s = append(s, ".."...)
	}
	return string(s)
}

func noise(seed int64, n int) []byte {
	b := make([]byte, n)
	rand.New(rand.NewSource(seed)).Read(b)
	return b
}

func join(parts ...[]byte) []byte { return slices.Concat(parts...) }

// edges are lengths at which the length itself needs a byte more, and the bound.
func edges() []int {
	return []int{0, 1, 2, 3, 4, 5, 126, 127, 128, 129, 300, 16383, 16384, api.MaxWire - 1, api.MaxWire}
}

// P3.1

func TestSum(t *testing.T) {
	for _, x := range []struct {
		b    string
		want uint32
	}{
		{"", 0}, {"123456789", 0xCBF43926}, {"a", 0xE8B7BE43}, {"abc", 0x352441C2},
		{"\x00", 0xD202EF8D}, {"\x00\x00\x00\x00", 0x2144DF1C}, {"\xff\xff\xff\xff", 0xFFFFFFFF},
		{"\x01", 0xA505DF1B}, {"\x80", 0x3FBA6CAD},
		{"The quick brown fox jumps over the lazy dog", 0x414FA339},
	} {
		if got := frame.Sum([]byte(x.b)); got != x.want {
			t.Errorf("Sum(%q): %08x, not %08x", x.b, got, x.want)
		}
	}
	if got := frame.Sum(nil); got != 0 {
		t.Errorf("Sum(nil): %08x", got)
	}
}

// byDefinition does what the chapter's section 'Words' says, word by word.
func byDefinition(b []byte) uint32 {
	var sum uint32 = 0xFFFFFFFF
	for _, c := range b {
		for i := 0; i < 8; i++ {
			t := (sum & 1) ^ (uint32(c>>i) & 1)
			sum = sum >> 1
			if t == 1 {
				sum = sum ^ 0xEDB88320
			}
		}
	}
	return sum ^ 0xFFFFFFFF
}

func TestSumByOtherMeans(t *testing.T) {
	for c := range 256 {
		if got, want := frame.Sum([]byte{byte(c)}), byDefinition([]byte{byte(c)}); got != want {
			t.Errorf("Sum of the byte %d: %08x, not %08x", c, got, want)
		}
	}
	for _, n := range append(edges(), api.MaxWire+1, 3*api.MaxWire+7) {
		b := noise(int64(n), n)
		if got := frame.Sum(b); got != byDefinition(b) || got != crc32.ChecksumIEEE(b) {
			t.Errorf("Sum of %d bytes: %08x, not %08x", n, got, byDefinition(b))
		}
	}
	for n := range 300 {
		b := noise(int64(n)+1000, n)
		if got := frame.Sum(b); got != crc32.ChecksumIEEE(b) {
			t.Errorf("Sum of %x: %08x, not %08x", b, got, crc32.ChecksumIEEE(b))
		}
	}
}

func TestMoreAtEachCut(t *testing.T) {
	b := append([]byte("123456789"), noise(1, 50)...)
	want := frame.Sum(b)
	for i := range len(b) + 1 {
		if got := frame.More(frame.Sum(b[:i]), b[i:]); got != want {
			t.Errorf("More behind %d bytes: %08x, not %08x", i, got, want)
		}
		for j := i; j <= len(b); j++ {
			if got := frame.More(frame.More(frame.Sum(b[:i]), b[i:j]), b[j:]); got != want {
				t.Errorf("More behind %d and %d bytes: %08x, not %08x", i, j, got, want)
			}
		}
	}
	var sum uint32
	for _, c := range b {
		sum = frame.More(sum, []byte{c})
	}
	if sum != want {
		t.Errorf("More byte by byte: %08x, not %08x", sum, want)
	}
	if got := frame.More(frame.Sum([]byte("1234")), []byte("56789")); got != 0xCBF43926 {
		t.Errorf("More: %08x", got)
	}
}

// Each number is the sum of some bytes, so More goes on behind each.
func TestMoreBehindAnySum(t *testing.T) {
	r := rand.New(rand.NewSource(2))
	sums := []uint32{0, 1, math.MaxInt32, 1 << 31, 0xCBF43926, 0xEDB88320, math.MaxUint32 - 1, math.MaxUint32}
	for range 200 {
		sums = append(sums, r.Uint32())
	}
	for _, sum := range sums {
		if frame.More(sum, nil) != sum || frame.More(sum, []byte{}) != sum {
			t.Errorf("More(%08x, no bytes): %08x", sum, frame.More(sum, nil))
		}
		b := noise(int64(sum), r.Intn(40))
		if got, want := frame.More(sum, b), crc32.Update(sum, crc32.IEEETable, b); got != want {
			t.Errorf("More(%08x, %x): %08x, not %08x", sum, b, got, want)
		}
	}
}

func TestWrap(t *testing.T) {
	for _, x := range []struct{ b, want string }{
		{"", "\x00\x8d\xef\x02\xd2"},
		{"ab", "\x02ab\xee\x57\x9f\x23"},
		{"123456789", "\x09123456789\x34\x6e\x62\x32"},
		{"\x00", "\x01\x00\xbe\x23\xc2\x58"},
	} {
		if want := string(made([]byte(x.b))); want != x.want {
			t.Errorf("the frame of %q by other means: %x, not %x", x.b, want, x.want)
		}
		if got := string(wrapped(t, []byte(x.b))); got != x.want {
			t.Errorf("Wrap(%q): %x, not %x", x.b, got, x.want)
		}
	}
	if got := wrapped(t, nil); string(got) != "\x00\x8d\xef\x02\xd2" {
		t.Errorf("Wrap(nil): %x", got)
	}
}

func TestWrapByOtherMeans(t *testing.T) {
	for _, n := range edges() {
		for _, b := range [][]byte{make([]byte, n), bytes.Repeat([]byte{0xff}, n), noise(int64(n), n)} {
			if got, want := wrapped(t, b), made(b); !bytes.Equal(got, want) {
				t.Errorf("Wrap of %d bytes: %s, not %s", n, brief(got), brief(want))
			}
		}
	}
	if f := wrapped(t, make([]byte, api.MaxWire)); len(f) != 3+api.MaxWire+4 {
		t.Errorf("Wrap of MaxWire bytes: %d bytes", len(f))
	}
}

func TestWrapTooLong(t *testing.T) {
	for _, n := range []int{api.MaxWire + 1, api.MaxWire + 2, 2 * api.MaxWire, 1 << 20} {
		if f, e := frame.Wrap(make([]byte, n)); len(f) != 0 || e != api.ErrLong {
			t.Errorf("Wrap of %d bytes: %s, %d", n, brief(f), e)
		}
	}
}

// P3.2

func TestOpen(t *testing.T) {
	wantOpen(t, []byte("\x00\x8d\xef\x02\xd2"), 0, nil, 5)
	wantOpen(t, []byte("\x02ab\xee\x57\x9f\x23"), 0, []byte("ab"), 7)
	wantOpen(t, []byte("...\x02ab\xee\x57\x9f\x23"), 3, []byte("ab"), 10)
	wantOpen(t, []byte("\x02ab\xee\x57\x9f\x23..."), 0, []byte("ab"), 7)
	for _, n := range edges() {
		b := noise(int64(n)+7, n)
		f := made(b)
		for _, ahead := range []int{0, 1, 200} {
			for _, behind := range []int{0, 1, 4, 200} {
				wantOpen(t, join(noise(3, ahead), f, noise(4, behind)), ahead, b, ahead+len(f))
			}
		}
	}
}

func TestOpenAtNoPlace(t *testing.T) {
	f := made([]byte("ab"))
	for _, b := range [][]byte{nil, {}, {0}, {0x80}, {0x80, 0}, f, append([]byte{0xff}, f...)} {
		for _, at := range []int{-1, -2, math.MinInt, math.MinInt + 1, math.MinInt32, len(b) + 1, len(b) + 2, math.MaxInt32, math.MaxInt} {
			wantNotOpen(t, b, at, 0, api.ErrArg)
		}
		wantNotOpen(t, b, len(b), len(b), api.ErrShort)
	}
}

// Room behind the bytes is not theirs, though the rest of the frame lies there.
func TestOpenTooShort(t *testing.T) {
	for _, n := range []int{0, 1, 2, 127, 128, 300, 16384} {
		f := made(noise(int64(n), n))
		for _, ahead := range []int{0, 1, 9} {
			b := join(noise(5, ahead), f)
			for i := range min(len(f), 400) {
				wantNotOpen(t, b[:ahead+i], ahead, ahead+i, api.ErrShort)
				wantNotOpen(t, b[:len(b)-1-i], ahead, len(b)-1-i, api.ErrShort)
			}
		}
	}
	f := made(make([]byte, api.MaxWire))
	for _, n := range []int{0, 1, 2, 3, 4, 7, api.MaxWire, api.MaxWire + 2, api.MaxWire + 3, api.MaxWire + 6} {
		wantNotOpen(t, f[:n], 0, n, api.ErrShort)
	}
}

// The sum is not looked at while bytes are missing.
func TestShortAheadOfSum(t *testing.T) {
	wantNotOpen(t, []byte("\x02ab\x00\x00\x00"), 0, 6, api.ErrShort)
	wantNotOpen(t, []byte("\x00\x00\x00\x00"), 0, 4, api.ErrShort)
}

func TestOpenLengthThatVintRefuses(t *testing.T) {
	tooMany := bytes.Repeat([]byte{0x80}, 9)
	for _, x := range []struct {
		b     []byte
		place int
	}{
		{[]byte{0x80, 0}, 1},
		{[]byte{0x82, 0, 'a', 'b', 0, 0, 0, 0}, 1},
		{[]byte{0xff, 0x80, 0}, 2},
		{[]byte{0x81, 0x80, 0x80, 0}, 3},
		{append(slices.Clone(tooMany), 2), 9},
		{append(slices.Clone(tooMany), 0), 9},
		{append(slices.Clone(tooMany), 0x81, 0), 9},
		{append(slices.Clone(tooMany), 0xff), 9},
	} {
		for _, ahead := range []int{0, 1, 6} {
			for _, behind := range []int{0, 1, 50} {
				wantNotOpen(t, join(noise(6, ahead), x.b, noise(7, behind)), ahead, ahead+x.place, api.ErrForm)
			}
		}
	}
}

// A length that is written with a byte too many is refused, though the sum of its bytes is right.
func TestOpenLengthWithARightSum(t *testing.T) {
	f := []byte{0x82, 0, 'a', 'b'}
	wantNotOpen(t, binary.LittleEndian.AppendUint32(f, crc32.ChecksumIEEE(f)), 0, 1, api.ErrForm)
}

func TestOpenLengthAboveMaxWire(t *testing.T) {
	for _, n := range []uint64{
		api.MaxWire + 1, api.MaxWire + 2, 1<<17 + 2, 1<<31 - 1, 1 << 31, 1<<32 - 4, 1 << 32, 1<<32 + 2,
		math.MaxInt64 - 4, math.MaxInt64 - 3, math.MaxInt64, 1 << 63, 1<<63 + 2, math.MaxUint64 - 3, math.MaxUint64,
	} {
		f := binary.AppendUvarint(nil, n)
		for _, ahead := range []int{0, 1, 6} {
			for _, behind := range []int{0, 1, 4, 6, 70000} {
				wantNotOpen(t, join(noise(8, ahead), f, make([]byte, behind)), ahead, ahead, api.ErrForm)
			}
		}
	}
	for _, n := range []int{api.MaxWire + 1, api.MaxWire + 2, 1 << 18} {
		wantNotOpen(t, made(make([]byte, n)), 0, 0, api.ErrForm)
		wantNotOpen(t, join([]byte("..."), made(make([]byte, n))), 3, 3, api.ErrForm)
	}
}

func TestOpenWrongSum(t *testing.T) {
	for _, f := range [][]byte{
		[]byte("\x00\x00\x00\x00\x00"),
		[]byte("\x00\xd2\x02\xef\x8d"),          // the highest first
		[]byte("\x02ab\x6d\x48\x83\x9e"),        // of the bytes alone
		[]byte("\x02ab\x11\xa8\x60\xdc"),        // not turned in the end
		[]byte("\x02ba\xee\x57\x9f\x23"),        // of the bytes in another order
		[]byte("\x02ab\x00\x00\x00\x00\xff"),    // none
		[]byte("\x03abc\x00\x00\x00\x00\x00ab"), // none, and more behind it
	} {
		for _, ahead := range []int{0, 1, 6} {
			wantNotOpen(t, join(noise(9, ahead), f), ahead, ahead, api.ErrSum)
		}
	}
	for _, n := range edges() {
		f := made(noise(int64(n), n))
		for i := 1; i <= 4; i++ {
			for c := 1; c < 256; c <<= 1 {
				bad := slices.Clone(f)
				bad[len(bad)-i] ^= byte(c)
				wantNotOpen(t, bad, 0, 0, api.ErrSum)
				wantNotOpen(t, append([]byte{7}, bad...), 1, 1, api.ErrSum)
			}
		}
	}
}

func TestAll(t *testing.T) {
	wantAll(t, nil)
	wantAll(t, []byte{})
	a, b, c := []byte("ab"), []byte{}, noise(10, 300)
	wantAll(t, made(a), a)
	wantAll(t, made(b), b)
	wantAll(t, join(made(a), made(a)), a, a)
	wantAll(t, join(made(b), made(b), made(b)), b, b, b)
	wantAll(t, join(made(a), made(b), made(c), made(a)), a, b, c, a)
	var bytes []byte
	var want [][]byte
	for _, n := range edges() {
		one := noise(int64(n), n)
		want = append(want, one)
		bytes = append(bytes, made(one)...)
	}
	wantAll(t, bytes, want...)
}

func TestAllOfManyFrames(t *testing.T) {
	var b []byte
	var want [][]byte
	for i := range 5000 {
		one := noise(int64(i), i%9)
		want = append(want, one)
		b = append(b, made(one)...)
	}
	wantAll(t, b, want...)
}

func TestAllWithAWrongOne(t *testing.T) {
	right := join(made([]byte("ab")), made(nil), made(noise(11, 200)))
	long := binary.AppendUvarint(nil, api.MaxWire+1)
	wrong := made([]byte("cd"))
	wrong[2] ^= 4
	for _, ahead := range [][]byte{nil, made(nil), right, join(right, right)} {
		n := len(ahead)
		for _, behind := range [][]byte{nil, made(nil), right} {
			wantNotAll(t, join(ahead, wrong, behind), n, api.ErrSum)
			wantNotAll(t, join(ahead, long, behind), n, api.ErrForm)
			wantNotAll(t, join(ahead, []byte{0x80, 0}, behind), n+1, api.ErrForm)
		}
		wantNotAll(t, join(ahead, []byte{0}), n+1, api.ErrShort)
		wantNotAll(t, join(ahead, []byte{0x80}), n+1, api.ErrShort)
		// of two that can't be, the first is told
		wantNotAll(t, join(ahead, wrong, long), n, api.ErrSum)
		wantNotAll(t, join(ahead, long, wrong), n, api.ErrForm)
		wantNotAll(t, join(ahead, wrong, []byte{5}), n, api.ErrSum)
	}
}

func TestAllCutAtEachPlace(t *testing.T) {
	parts := [][]byte{[]byte("ab"), {}, noise(12, 130), []byte("c")}
	var b []byte
	var ends []int
	for _, one := range parts {
		b = append(b, made(one)...)
		ends = append(ends, len(b))
	}
	for i := range b {
		if i == 0 {
			wantAll(t, b[:i])
		} else if k := slices.Index(ends, i); k >= 0 {
			wantAll(t, b[:i], parts[:k+1]...)
		} else {
			wantNotAll(t, b[:i], i, api.ErrShort)
		}
	}
}

// P3.3

func TestWhatIsWrappedIsOpened(t *testing.T) {
	r := rand.New(rand.NewSource(13))
	sizes := edges()
	for range 100 {
		sizes = append(sizes, r.Intn(2000))
	}
	var all []byte
	var want [][]byte
	for _, n := range sizes {
		b := noise(int64(n)+99, n)
		f := wrapped(t, b)
		wantOpen(t, f, 0, b, len(f))
		at := len(all)
		all = append(all, f...)
		wantOpen(t, all, at, b, len(all))
		want = append(want, b)
	}
	wantAll(t, all, want...)
}

// turned has the bits of burst turned from a bit on, in the order in which the sum goes over them.
func turned(f []byte, from int, burst uint32) []byte {
	out := slices.Clone(f)
	for i := range 32 {
		if at := from + i; burst>>i&1 == 1 && at/8 < len(out) {
			out[at/8] ^= 1 << (at % 8)
		}
	}
	return out
}

// bursts are ends of each width up to 32 with nothing, all, and something at random between them.
func bursts(r *rand.Rand) []uint32 {
	list := []uint32{1}
	for width := 2; width <= 32; width++ {
		end := uint32(1)<<(width-1) | 1
		list = append(list, end, end|(1<<(width-1)-1))
		for range 2 {
			list = append(list, end|r.Uint32()&(1<<(width-1)-1))
		}
	}
	return list
}

func fits(burst uint32, room int) bool { return room >= 32 || burst>>room == 0 }

func TestBurstBehindTheLength(t *testing.T) {
	r := rand.New(rand.NewSource(14))
	for _, n := range []int{0, 1, 2, 5, 40, 127, 128} {
		f := wrapped(t, noise(int64(n), n))
		size := vint.Size(uint64(n))
		for from := size * 8; from < len(f)*8; from++ {
			for _, burst := range bursts(r) {
				if fits(burst, len(f)*8-from) {
					wantNotOpen(t, turned(f, from, burst), 0, 0, api.ErrSum)
				}
			}
		}
	}
}

func TestBurstInAGreatFrame(t *testing.T) {
	r := rand.New(rand.NewSource(15))
	f := wrapped(t, noise(16, api.MaxWire))
	last := len(f)*8 - 32
	places := []int{24, 25, 31, 32, last - 33, last - 32, last - 1, last}
	for range 60 {
		places = append(places, 24+r.Intn(last-24))
	}
	for _, from := range places {
		for _, burst := range []uint32{1, 1<<31 | 1, math.MaxUint32, r.Uint32() | 1} {
			wantNotOpen(t, turned(f, from, burst), 0, 0, api.ErrSum)
		}
	}
}

// Each burst of up to 12 bits, at each place.
func TestEachShortBurst(t *testing.T) {
	f := wrapped(t, []byte("123456789"))
	for from := 8; from < len(f)*8; from++ {
		for burst := uint32(1); burst < 1<<12; burst += 2 {
			if fits(burst, len(f)*8-from) {
				wantNotOpen(t, turned(f, from, burst), 0, 0, api.ErrSum)
			}
		}
	}
}

// Bytes behind the frame let a length that was turned find a longer frame; a burst may go on from the length into what is behind it.
func TestBurstInTheLength(t *testing.T) {
	r := rand.New(rand.NewSource(17))
	for _, n := range []int{0, 1, 2, 5, 40, 127, 128, 200, 16383, 16384, api.MaxWire} {
		b := noise(int64(n), n)
		size := vint.Size(uint64(n))
		for _, behind := range []int{0, 300} {
			f := append(wrapped(t, b), noise(18, behind)...)
			for from := range size * 8 {
				for _, burst := range bursts(r) {
					got, _, e := frame.Open(turned(f, from, burst), 0)
					if e == api.OK && bytes.Equal(got, b) {
						t.Errorf("%d bytes are opened as they were, with %x turned at %d", n, burst, from)
					}
				}
			}
		}
	}
}

// What a turned length does find is another frame: then it is opened, as other bytes.
func TestAnotherFrameInAFrame(t *testing.T) {
	inner := made([]byte("ab"))
	f := wrapped(t, append(slices.Clone(inner[1:]), "cd"...))
	wantOpen(t, f, 0, append(slices.Clone(inner[1:]), "cd"...), len(f))
	f[0] ^= 8 ^ 2
	wantOpen(t, f, 0, []byte("ab"), 7)
}

// DOC.md's P4

func TestArgumentsAreNotChanged(t *testing.T) {
	room := join([]byte("ab"), made([]byte("cd")), made(nil), bytes.Repeat([]byte{'.'}, 40))
	b := room[:len(room)-40]
	before := slices.Clone(room)
	frame.Sum(b)
	frame.More(5, b)
	frame.Wrap(b)
	frame.Open(b, 2)
	frame.Open(b, 0)
	frame.All(b)
	frame.All(b[2:])
	if !bytes.Equal(room, before) {
		t.Errorf("changed: %x, not %x", room, before)
	}
}

// overwrite writes into all that a list has, the room behind it too.
func overwrite(b []byte) {
	for i := range b[:cap(b)] {
		b[:cap(b)][i] = '#'
	}
}

func TestAnswersShareNoMemory(t *testing.T) {
	b := []byte("ab")
	f := wrapped(t, b)
	overwrite(f)
	if string(b) != "ab" {
		t.Errorf("Wrap shares its argument: %q", b)
	}
	all := join(made(b), made([]byte("cd")), made(nil), made([]byte("ef")))
	before := slices.Clone(all)
	one, _, _ := frame.Open(all, 0)
	overwrite(one)
	list, _, _ := frame.All(all)
	if len(list) != 4 {
		t.Fatalf("All: %d frames", len(list))
	}
	for i, want := range []string{"ab", "cd", "", "ef"} {
		if string(list[i]) != want {
			t.Errorf("frame %d is %q, not %q: it shares another's memory", i, list[i], want)
		}
		overwrite(list[i])
	}
	if !bytes.Equal(all, before) {
		t.Errorf("an answer shares its argument: %x", all)
	}
	overwrite(all)
	if f := wrapped(t, b); string(f) != string(made([]byte("ab"))) {
		t.Errorf("Wrap: %x", f)
	}
}

func TestAnswersOutliveArguments(t *testing.T) {
	b := made([]byte("ab"))
	one, _, _ := frame.Open(b, 0)
	list, _, _ := frame.All(b)
	overwrite(b)
	if string(one) != "ab" || len(list) != 1 || string(list[0]) != "ab" {
		t.Errorf("the answers changed with the argument: %q, %q", one, list)
	}
}

// model opens by the chapter's order of errors, by other means.
func model(b []byte, at int) ([]byte, int, api.Errno) {
	if at < 0 || at > len(b) {
		return nil, 0, api.ErrArg
	}
	n, from, e := vint.Get(b, at)
	if e != api.OK {
		return nil, from, e
	}
	if n > api.MaxWire {
		return nil, at, api.ErrForm
	}
	rest := b[from:]
	if uint64(len(rest)) < n+4 {
		return nil, len(b), api.ErrShort
	}
	end := from + int(n) + 4
	if binary.LittleEndian.Uint32(b[end-4:]) != crc32.ChecksumIEEE(b[at:end-4]) {
		return nil, at, api.ErrSum
	}
	return rest[:n], end, api.OK
}

func wantAsModel(t *testing.T, b []byte, at int) {
	t.Helper()
	want, next, e := model(b, at)
	if e == api.OK {
		wantOpen(t, b, at, want, next)
	} else {
		wantNotOpen(t, b, at, next, e)
	}
}

func wantAllAsModel(t *testing.T, b []byte) {
	t.Helper()
	var want [][]byte
	for at := 0; at < len(b); {
		one, next, e := model(b, at)
		if e != api.OK {
			wantNotAll(t, b, next, e)
			return
		}
		want = append(want, one)
		at = next
	}
	wantAll(t, b, want...)
}

func TestBytesAtRandom(t *testing.T) {
	r := rand.New(rand.NewSource(19))
	for range 3000 {
		var b []byte
		for range r.Intn(5) {
			one := made(noise(r.Int63(), r.Intn(12)))
			if r.Intn(4) == 0 {
				one[r.Intn(len(one))] ^= byte(1 << r.Intn(8))
			}
			if r.Intn(8) == 0 {
				one = one[:r.Intn(len(one))]
			}
			b = append(b, one...)
		}
		wantAllAsModel(t, b)
		for at := -1; at <= len(b)+1; at++ {
			wantAsModel(t, b, at)
		}
	}
}

func FuzzOpen(f *testing.F) {
	f.Add([]byte{}, 0)
	f.Add([]byte{0x80, 0}, 0)
	f.Add([]byte{0x81, 0x80, 0x04, 0}, 0)
	f.Add(made([]byte("ab")), 0)
	f.Add(join([]byte{1}, made([]byte("ab")), made(nil)), 1)
	f.Fuzz(func(t *testing.T, b []byte, at int) {
		wantAsModel(t, b, at)
		wantAllAsModel(t, b)
		if len(b) <= api.MaxWire {
			whole := wrapped(t, b)
			wantOpen(t, whole, 0, b, len(whole))
			wantAll(t, join(whole, whole), b, b)
		}
	})
}
