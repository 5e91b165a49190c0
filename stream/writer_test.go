package stream_test

import (
	"math/rand"
	"slices"
	"strconv"
	"strings"
	"testing"

	"baler/api"
	"baler/bits"
	"baler/block"
	"baler/crc"
	"baler/stream"
)

// least and greatest are the ends of all numbers.
const (
	least    = -1 << 63
	greatest = 1<<63 - 1
)

// most is how long a body may be.
const most = 900000

// short is a text to be shown.
func short(s string) string {
	if len(s) > 60 {
		return s[:60] + ".."
	}
	return s
}

// like is a text of so many like bytes.
func like(b byte, n int) string { return strings.Repeat(string([]byte{b}), n) }

// field is a number as n bits, one letter each.
func field(v uint64, n int) string { return strconv.FormatUint(1<<n|v, 2)[1:] }

// packed are bits as bytes, with bits 0 behind them up to a whole one.
func packed(row string) string {
	row += strings.Repeat("0", (8-len(row)%8)%8)
	s := make([]byte, len(row)/8)
	for i := range row {
		s[i/8] = s[i/8]<<1 | row[i]&1
	}
	return string(s)
}

// letters are the first n bits of bytes, one letter each.
func letters(s string, n int) string {
	var row strings.Builder
	for i := range len(s) {
		row.WriteString(field(uint64(s[i]), 8))
	}
	return row.String()[:n]
}

// part is a block: a body, or last bytes and their origin; and its sum.
type part struct {
	text   string
	origin int // of last bytes; -1 of a body
	sum    uint32
}

// write has a block written by a writer of bits, or of a stream.
func (p part) write(body func(string, uint32) api.Errno, turned func(string, int, uint32) api.Errno) api.Errno {
	if p.origin < 0 {
		return body(p.text, p.sum)
	}
	return turned(p.text, p.origin, p.sum)
}

// row is a block as bits, behind its magic.
func (p part) row() string {
	w := bits.NewWriter()
	p.write(func(body string, sum uint32) api.Errno { return block.Write(w, body, sum) },
		func(last string, origin int, sum uint32) api.Errno { return block.Turned(w, last, origin, sum) })
	n := w.Len()
	w.Pad()
	return letters(w.Take(), n)
}

// plain is a stream as the chapter tells it; without its end, if that is not asked for.
func plain(level int, parts []part, end bool) string {
	row := letters("BZh"+strconv.Itoa(level), 32)
	sum := uint32(0)
	for _, p := range parts {
		row += field(0x314159265359, 48) + p.row()
		sum = sum<<1 | sum>>31
		sum ^= p.sum
	}
	if end {
		return packed(row + field(0x177245385090, 48) + field(uint64(sum), 32))
	}
	return packed(row)[:len(row)/8]
}

// somePart is a block of some length, of few letters or many.
func somePart(random *rand.Rand) part {
	letters := 1 + random.Intn(1<<random.Intn(9))
	text := make([]byte, 1+random.Intn(1<<random.Intn(9)))
	for i := range text {
		text[i] = byte(random.Intn(letters))
	}
	origin := random.Intn(2*len(text)) - len(text)
	return part{string(text), max(origin, -1), random.Uint32()}
}

// writer is a new writer, which has its beginning; it fails, if there is none.
func writer(t *testing.T, level int) *stream.Writer {
	t.Helper()
	w, e := stream.New(level)
	if w == nil || e != api.OK {
		t.Fatalf("New(%d): %v, %v", level, w != nil, e)
	}
	wantHeld(t, w, 4)
	return w
}

// wantHeld fails unless a writer holds so many bytes; asked twice, for looking changes nothing.
func wantHeld(t *testing.T, w *stream.Writer, want int) {
	t.Helper()
	for range 2 {
		if n := w.Held(); n != want {
			t.Fatalf("Held: %d, not %d", n, want)
		}
	}
}

// wantTake fails unless a writer has these bytes, and none any more then.
func wantTake(t *testing.T, w *stream.Writer, want string) {
	t.Helper()
	wantHeld(t, w, len(want))
	if s := w.Take(); s != want {
		t.Fatalf("Take: %x, not %x", short(s), short(want))
	}
	wantHeld(t, w, 0)
	if s := w.Take(); s != "" {
		t.Fatalf("Take again: %x", short(s))
	}
}

// wantWrite fails unless a writer tells this of a block.
func wantWrite(t *testing.T, w *stream.Writer, p part, want api.Errno) {
	t.Helper()
	if e := p.write(w.Block, w.Turned); e != want {
		t.Fatalf("the block %q of %d, from %d: %v, not %v", short(p.text), len(p.text), p.origin, e, want)
	}
}

// wantEnd fails unless a writer tells this of the end.
func wantEnd(t *testing.T, w *stream.Writer, want api.Errno) {
	t.Helper()
	if e := w.End(); e != want {
		t.Fatalf("End: %v, not %v", e, want)
	}
}

// 21.2: each level, and such as there are not.
func TestNew(t *testing.T) {
	for i, want := range []string{"BZh1", "BZh2", "BZh3", "BZh4", "BZh5", "BZh6", "BZh7", "BZh8", "BZh9"} {
		wantTake(t, writer(t, i+1), want)
	}
	for _, level := range []int{0, 10, 11, -1, -9, 256 + 1, 1<<32 + 1, least, greatest} {
		if w, e := stream.New(level); w != nil || e != api.ErrArg {
			t.Errorf("New(%d): %v, %v", level, w != nil, e)
		}
	}
}

// 21.2: streams by hand: the block of "a" ends within a byte, whose bits wait for the end's.
func TestByHand(t *testing.T) {
	for _, origin := range []int{-1, 0} {
		w := writer(t, 9)
		wantTake(t, w, "BZh9")
		wantWrite(t, w, part{"a", origin, 0x19939b6b}, api.OK)
		wantTake(t, w, "1AY&SY\x19\x93\x9b\x6b\x00\x00\x00\x01\x00\x20\x00\x20\x00\x21\x18\x46")
		wantEnd(t, w, api.OK)
		wantTake(t, w, "\x82\xee\x48\xa7\x0a\x12\x03\x32\x73\x6d\x60")
	}
	w := writer(t, 1)
	wantEnd(t, w, api.OK)
	wantTake(t, w, "BZh1\x17\x72\x45\x38\x50\x90\x00\x00\x00\x00")
}

// 21.2: the sum of a stream turns with each block, and comes round behind 32 of them.
func TestSum(t *testing.T) {
	for _, c := range []struct {
		sums []uint32
		want uint32
	}{
		{nil, 0}, {[]uint32{0x80000001}, 0x80000001}, {[]uint32{0x80000001, 0}, 3}, {[]uint32{0x80000001, 3}, 0},
		{[]uint32{1, 2, 4}, 4}, {append([]uint32{5}, make([]uint32, 31)...), 0x80000002}, {append([]uint32{5}, make([]uint32, 32)...), 5},
	} {
		w := writer(t, 1)
		for _, sum := range c.sums {
			wantWrite(t, w, part{"a", 0, sum}, api.OK)
		}
		wantEnd(t, w, api.OK)
		s := w.Take()
		row := letters(s, 8*len(s))
		at := strings.LastIndex(row, field(0x177245385090, 48)) + 48
		if row[at:at+32] != field(uint64(c.want), 32) {
			t.Errorf("%x: %s, not %x", c.sums, row[at:at+32], c.want)
		}
	}
}

// 21.2, 21.4: blocks of all kinds, taken at any time: all that is taken, one behind the other, is the stream, whole bytes as soon as they are there.
func TestMany(t *testing.T) {
	random := rand.New(rand.NewSource(1))
	for range 300 {
		level := 1 + random.Intn(9)
		w, taken := writer(t, level), 0
		var parts []part
		for range random.Intn(6) {
			p := somePart(random)
			wantWrite(t, w, p, api.OK)
			parts = append(parts, p)
			soFar := plain(level, parts, false)
			wantHeld(t, w, len(soFar)-taken)
			if random.Intn(2) == 0 {
				wantTake(t, w, soFar[taken:])
				taken = len(soFar)
			}
		}
		wantEnd(t, w, api.OK)
		wantTake(t, w, plain(level, parts, true)[taken:])
	}
}

// 21.2: bodies and last bytes as long as may be, of few bits and of many.
func TestLong(t *testing.T) {
	for _, text := range []string{like('a', most), strings.Repeat("ab", most/2)} {
		w, p := writer(t, 9), part{text, most - 1, 7}
		wantWrite(t, w, p, api.OK)
		wantEnd(t, w, api.OK)
		wantTake(t, w, plain(9, []part{p}, true))
	}
	w, p := writer(t, 9), part{like('a', most), -1, 7}
	wantWrite(t, w, p, api.OK)
	wantTake(t, w, plain(9, []part{p}, false))
}

// refused are blocks that may not be written.
func refused() []part {
	long := like('a', most+1)
	return []part{
		{"", -1, 0}, {"", 0, 5}, {"", 1, 5}, {long, -1, 5}, {long + long, -1, 5}, {long, 0, 5}, {long, most, 5}, {long + long, 0, 5},
		{"a", 1, 5}, {"a", 2, 5}, {"a", greatest, 5}, {"a", 1 << 24, 5}, {"a", 1 << 32, 5}, {"nnbaaa", 6, 1}, {"nnbaaa", 7, 1}, {like('a', most), most, 1},
	}
}

// 21.2: blocks that may not be written: nothing is written, no magic either, and what comes behind is as if nothing had been.
func TestRefused(t *testing.T) {
	for _, ahead := range [][]part{nil, {{"nnbaaa", 3, 9}}, {{"a", 0, 1 << 31}, {"b", -1, 77}}} {
		w := writer(t, 3)
		for _, p := range ahead {
			wantWrite(t, w, p, api.OK)
		}
		held := w.Held()
		for _, p := range refused() {
			wantWrite(t, w, p, api.ErrArg)
			wantHeld(t, w, held)
		}
		for _, origin := range []int{-1, -2, least} {
			if e := w.Turned("a", origin, 5); e != api.ErrArg {
				t.Errorf("Turned(%d): %v", origin, e)
			}
			wantHeld(t, w, held)
		}
		last := part{"banana", -1, crc.Of("banana")}
		wantWrite(t, w, last, api.OK)
		wantEnd(t, w, api.OK)
		wantTake(t, w, plain(3, append(slices.Clone(ahead), last), true))
	}
}

// 21.2: behind the end nothing is written; that is told ahead of what a block has wrong, and what is left can be taken.
func TestBehindEnd(t *testing.T) {
	w := writer(t, 2)
	wantWrite(t, w, part{"a", 0, 3}, api.OK)
	wantEnd(t, w, api.OK)
	want := plain(2, []part{{"a", 0, 3}}, true)
	for i := range 2 {
		wantHeld(t, w, len(want))
		for _, p := range append(refused(), part{"a", 0, 3}, part{"a", -1, 3}) {
			wantWrite(t, w, p, api.ErrState)
		}
		wantEnd(t, w, api.ErrState)
		if i == 0 {
			wantTake(t, w, want)
			want = ""
		}
	}
}

// 21.2: of nil, and of a writer that New did not make.
func TestNil(t *testing.T) {
	var raw stream.Writer
	for _, w := range []*stream.Writer{nil, &raw} {
		for range 2 {
			for _, p := range append(refused(), part{"a", 0, 3}, part{"a", -1, 3}) {
				wantWrite(t, w, p, api.ErrState)
			}
			wantTake(t, w, "")
			wantEnd(t, w, api.ErrState)
			wantTake(t, w, "")
		}
	}
}

// R6: two writers at a time are apart.
func TestTwoWriters(t *testing.T) {
	one, two := writer(t, 1), writer(t, 2)
	wantWrite(t, one, part{"a", 0, 1}, api.OK)
	wantHeld(t, two, 4)
	wantWrite(t, two, part{"b", 0, 2}, api.OK)
	wantWrite(t, one, part{"c", 0, 4}, api.OK)
	wantEnd(t, two, api.OK)
	wantTake(t, two, plain(2, []part{{"b", 0, 2}}, true))
	wantEnd(t, one, api.OK)
	wantTake(t, one, plain(1, []part{{"a", 0, 1}, {"c", 0, 4}}, true))
}
