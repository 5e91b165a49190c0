package block_test

import (
	"compress/bzip2"
	"io"
	"math/rand"
	"slices"
	"strconv"
	"strings"
	"testing"

	"baler/api"
	"baler/bits"
	"baler/block"
	"baler/code"
	"baler/crc"
	"baler/rle"
)

// least and greatest are the ends of all numbers.
const (
	least    = -1 << 63
	greatest = 1<<63 - 1
)

// most is how many last bytes there may be.
const most = 900000

// short is a text to be shown.
func short(s string) string {
	if len(s) > 60 {
		return s[:60] + ".."
	}
	return s
}

// like is a text of so many like bytes.
func like(b byte, n int) string { return strings.Repeat(string([]byte{b}), n) }

// field is a number as n bits, one letter each.
func field(v uint64, n int) string { return strconv.FormatUint(1<<n|v, 2)[1:] }

// packed are bits as bytes, with bits 0 behind them up to a whole one.
func packed(row string) string {
	row += strings.Repeat("0", (8-len(row)%8)%8)
	s := make([]byte, len(row)/8)
	for i := range row {
		s[i/8] = s[i/8]<<1 | row[i]&1
	}
	return string(s)
}

// letters are the first n bits of bytes, one letter each.
func letters(s string, n int) string {
	var row strings.Builder
	for i := range len(s) {
		row.WriteString(field(uint64(s[i]), 8))
	}
	return row.String()[:n]
}

// plainLast are a body's last bytes and its origin, of its rotations sorted as texts.
func plainLast(body string) (string, int) {
	order := make([]int, len(body))
	for i := range order {
		order[i] = i
	}
	slices.SortStableFunc(order, func(i, k int) int {
		return strings.Compare(body[i:]+body[:i], body[k:]+body[:k])
	})
	last := make([]byte, len(body))
	for i, place := range order {
		last[i] = body[(place+len(body)-1)%len(body)]
	}
	return string(last), slices.Index(order, 0)
}

// plainSymbols are the bytes of a text, each once, rising.
func plainSymbols(s string) string {
	l := []byte(s)
	slices.Sort(l)
	return string(slices.Compact(l))
}

// plainUsed are symbols as bits.
func plainUsed(symbols string) string {
	first, rest := "", ""
	for i := range 16 {
		row := ""
		for b := 16 * i; b < 16*i+16; b++ {
			row += field(uint64(strings.Count(symbols, like(byte(b), 1))), 1)
		}
		if row == strings.Repeat("0", 16) {
			first += "0"
		} else {
			first, rest = first+"1", rest+row
		}
	}
	return first + rest
}

// plainCodes are the codes of a text's places among symbols, and the end.
func plainCodes(s, symbols string) []int {
	var codes []int
	list, zeros := []byte(symbols), 0
	row := func() {
		for ; zeros > 0; zeros = (zeros - 1) / 2 {
			codes = append(codes, (zeros+1)%2)
		}
	}
	for i := range len(s) {
		place := slices.Index(list, s[i])
		if place == 0 {
			zeros++
			continue
		}
		row()
		codes = append(codes, place+1)
		list = slices.Insert(slices.Delete(list, place, place+1), 0, s[i])
	}
	row()
	return append(codes, len(symbols)+1)
}

// plainRow is a row of codes as bits.
func plainRow(codes []int, size int) string {
	w := bits.NewWriter()
	code.Write(w, codes, size)
	n := w.Len()
	w.Pad()
	return letters(w.Take(), n)
}

// plainHead is what stands ahead of the symbols.
func plainHead(origin int, sum uint32) string {
	return field(uint64(sum), 32) + "0" + field(uint64(origin), 24)
}

// plainBlock is a block as bits.
func plainBlock(last string, origin int, sum uint32) string {
	symbols := plainSymbols(last)
	return plainHead(origin, sum) + plainUsed(symbols) + plainRow(plainCodes(last, symbols), len(symbols)+2)
}

// someBody is a body of some length, of few letters or many.
func someBody(random *rand.Rand) string {
	letters := 1 + random.Intn(1<<random.Intn(9))
	from := random.Intn(257 - letters)
	body := make([]byte, 1+random.Intn(1<<random.Intn(10)))
	for i := range body {
		body[i] = byte(from + random.Intn(letters))
		if i > 0 && random.Intn(3) == 0 {
			body[i] = body[i-1]
		}
	}
	return string(body)
}

// written is what a writer has behind so many bits 1, put by a call that tells an error.
func written(ahead int, write func(w *bits.Writer) api.Errno) (string, api.Errno) {
	w := bits.NewWriter()
	for range ahead {
		w.Put(1, 1)
	}
	e := write(w)
	n := w.Len()
	w.Pad()
	return letters(w.Take(), n)[ahead:], e
}

// wantTurned fails unless Turned writes these bits.
func wantTurned(t *testing.T, last string, origin int, sum uint32, ahead int, want string) {
	t.Helper()
	got, e := written(ahead, func(w *bits.Writer) api.Errno { return block.Turned(w, last, origin, sum) })
	if got != want || e != api.OK {
		t.Fatalf("Turned(%q of %d, %d, %08x): %v, %s\nnot %s", short(last), len(last), origin, sum, e, got, want)
	}
}

// wantWrite fails unless Write writes these bits.
func wantWrite(t *testing.T, body string, sum uint32, ahead int, want string) {
	t.Helper()
	got, e := written(ahead, func(w *bits.Writer) api.Errno { return block.Write(w, body, sum) })
	if got != want || e != api.OK {
		t.Fatalf("Write(%q of %d, %08x): %v, %s\nnot %s", short(body), len(body), sum, e, got, want)
	}
}

// joined are bits by hand, without what keeps their parts apart.
func joined(row string) string { return strings.NewReplacer(" ", "", "|", "").Replace(row) }

// example is the document's block of "a" by hand: the sum, the bit, the origin, the symbol, and the codes 0 2 of three with two tables.
var example = joined("00011001100100111001101101101011 | 0 | 000000000000000000000000 | 0000001000000000 | 0100000000000000 |" + exampleRow)

// exampleRow is its row.
const exampleRow = "010 000000000000001 0 | 00010 0 0 11 0 | 00010 0 0 11 0 | 10 0"

// The magics are those that the document tells.
func TestMagic(t *testing.T) {
	for want, magic := range map[string]uint64{"\x31\x41\x59\x26\x53\x59": block.Magic, "\x17\x72\x45\x38\x50\x90": block.End} {
		if s := packed(field(magic, 48)); s != want {
			t.Errorf("%x, not %x", s, want)
		}
	}
}

// 20.1: last bytes by hand: a block's parts, one behind the other, behind bits of any number.
func TestTurned(t *testing.T) {
	for _, c := range []struct {
		last   string
		origin int
		sum    uint32
		head   string
		codes  []int
		size   int
	}{
		{"a", 0, 0x19939b6b, "00011001100100111001101101101011 0 000000000000000000000000 0000001000000000 0100000000000000", []int{0, 2}, 3},
		{"\x00", 0, 0, "00000000000000000000000000000000 0 000000000000000000000000 1000000000000000 1000000000000000", []int{0, 2}, 3},
		{"\xff\xff", 1, 1<<32 - 1, "11111111111111111111111111111111 0 000000000000000000000001 0000000000000001 0000000000000001", []int{1, 2}, 3},
		{"nnbaaa", 3, 1, "00000000000000000000000000000001 0 000000000000000000000011 0000001000000000 0110000000000010", []int{3, 0, 3, 3, 1, 4}, 5},
		{"b\x10a", 2, 1 << 31, "10000000000000000000000000000000 0 000000000000000000000010 0100001000000000 1000000000000000 0110000000000000", []int{3, 2, 3, 4}, 5},
		{like('z', 7), 6, 2, "00000000000000000000000000000010 0 000000000000000000000110 0000000100000000 0000000000100000", []int{0, 0, 0, 2}, 3},
	} {
		for _, ahead := range []int{0, 1, 7, 8, 13, 31} {
			wantTurned(t, c.last, c.origin, c.sum, ahead, joined(c.head)+plainRow(c.codes, c.size))
		}
	}
}

// 20.1: last bytes of all kinds, from any place of them.
func TestTurnedMany(t *testing.T) {
	random := rand.New(rand.NewSource(1))
	for i := range 1500 {
		last, sum := someBody(random), random.Uint32()
		origin := random.Intn(len(last))
		wantTurned(t, last, origin, sum, i%33, plainBlock(last, origin, sum))
	}
	for b := range 256 {
		wantTurned(t, like(byte(b), 1+b), b, uint32(b), b%9, plainBlock(like(byte(b), 1+b), b, uint32(b)))
	}
}

// 20.1: bodies: their last bytes and origins.
func TestWrite(t *testing.T) {
	wantWrite(t, "banana", 7, 0, plainBlock("nnbaaa", 3, 7))
	wantWrite(t, "abab", 7, 0, plainBlock("bbaa", 0, 7))
	wantWrite(t, "baba", 7, 0, plainBlock("bbaa", 2, 7))
	random := rand.New(rand.NewSource(2))
	for i := range 1000 {
		body, sum := someBody(random), random.Uint32()
		last, origin := plainLast(body)
		wantWrite(t, body, sum, i%33, plainBlock(last, origin, sum))
	}
}

// 20.1: the document's example; of it the format's own library makes the same stream.
func TestWriteExample(t *testing.T) {
	wantWrite(t, "a", 0x19939b6b, 5, example)
	wantTurned(t, "a", 0, 0x19939b6b, 5, example)
	want := "BZh91AY&SY\x19\x93\x9b\x6b\x00\x00\x00\x01\x00\x20\x00\x20\x00\x21\x18\x46\x82\xee\x48\xa7\x0a\x12\x03\x32\x73\x6d\x60"
	s, e := stream(9, crc.Of("a"), func(w *bits.Writer) api.Errno { return block.Write(w, "a", crc.Of("a")) })
	if s != want || e != api.OK {
		t.Errorf("the stream of a: %x, %v, not %x", s, e, want)
	}
}

// 20.1: as many last bytes as may be, all of them alike, and none like the one ahead.
func TestTurnedLong(t *testing.T) {
	alike, unlike := like('a', most), strings.Repeat("ab", most/2)
	codes := []int{1, 0, 0, 0, 0, 1, 0, 1, 1, 1, 0, 1, 1, 1, 0, 1, 1, 0, 1, 2}
	wantTurned(t, alike, most-1, 5, 3, plainHead(most-1, 5)+plainUsed("a")+plainRow(codes, 3))
	row := slices.Repeat([]int{2}, most+1)
	row[0], row[most] = 0, 3
	wantTurned(t, unlike, most-1, 5, 3, plainHead(most-1, 5)+plainUsed("ab")+plainRow(row, 4))
}

// 20.1: what may not be written: a nil writer is told first, and nothing is written.
func TestTurnedErrors(t *testing.T) {
	long := like('a', most+1)
	for _, c := range []struct {
		last    string
		origins []int
	}{
		{"", []int{0, 1, -1, least, greatest}}, {"a", []int{-1, 1, 2, 1 << 24, 1 << 32, least, greatest}}, {"nnbaaa", []int{-1, -6, 6, 7, 1 << 32}},
		{like('a', most), []int{-1, most, most + 1, 1 << 24}}, {long, []int{0, 1, most, most + 1, -1}}, {long + long, []int{0, most}},
	} {
		for _, origin := range c.origins {
			got, e := written(11, func(w *bits.Writer) api.Errno { return block.Turned(w, c.last, origin, 5) })
			if got != "" || e != api.ErrArg {
				t.Errorf("Turned(%q of %d, %d): %s, %v", short(c.last), len(c.last), origin, got, e)
			}
			if e := block.Turned(nil, c.last, origin, 5); e != api.ErrState {
				t.Errorf("Turned(nil, %q, %d): %v", short(c.last), origin, e)
			}
		}
	}
	if e := block.Turned(nil, "a", 0, 5); e != api.ErrState {
		t.Errorf("Turned(nil): %v", e)
	}
}

// 20.1: bodies that may not be written.
func TestWriteErrors(t *testing.T) {
	for _, body := range []string{"", like('a', most+1), strings.Repeat("ab", most)} {
		got, e := written(11, func(w *bits.Writer) api.Errno { return block.Write(w, body, 5) })
		if got != "" || e != api.ErrArg {
			t.Errorf("Write(%q of %d): %s, %v", short(body), len(body), got, e)
		}
	}
	for _, body := range []string{"", "a", like('a', most+1)} {
		if e := block.Write(nil, body, 5); e != api.ErrState {
			t.Errorf("Write(nil, %q): %v", short(body), e)
		}
	}
}

// stream is a stream of one block, of what is written there.
func stream(level int, sum uint32, write func(w *bits.Writer) api.Errno) (string, api.Errno) {
	put := func(w *bits.Writer, magic uint64) {
		w.Put(uint32(magic>>24), 24)
		w.Put(uint32(magic&(1<<24-1)), 24)
	}
	w := bits.NewWriter()
	for _, b := range []byte("BZh" + strconv.Itoa(level)) {
		w.Put(uint32(b), 8)
	}
	put(w, block.Magic)
	e := write(w)
	put(w, block.End)
	w.Put(sum, 32)
	w.Pad()
	return w.Take(), e
}

// someText is a text with rows of like bytes.
func someText(random *rand.Rand) string {
	var s strings.Builder
	letters := 1 + random.Intn(1<<random.Intn(9))
	for range 1 + random.Intn(1<<random.Intn(11)) {
		n := 1
		if random.Intn(9) == 0 {
			n += random.Intn(400)
		}
		s.WriteString(like(byte(random.Intn(letters)), n))
	}
	return s.String()
}

// 20.1: blocks are such as another one's decoder of the format reads.
func TestWriteForOthers(t *testing.T) {
	random := rand.New(rand.NewSource(3))
	texts := []string{"a", "banana", like('x', 259), "\x00", like('\xff', 100000)}
	for range 200 {
		texts = append(texts, someText(random))
	}
	for _, s := range texts {
		body, sum := rle.Encode(s), crc.Of(s)
		out, e := stream(9, sum, func(w *bits.Writer) api.Errno { return block.Write(w, body, sum) })
		if e != api.OK {
			t.Fatalf("Write(%q): %v", short(body), e)
		}
		if l, err := io.ReadAll(bzip2.NewReader(strings.NewReader(out))); string(l) != s || err != nil {
			t.Fatalf("the stream of %q of %d is read as %q of %d, %v", short(s), len(s), short(string(l)), len(l), err)
		}
	}
}
