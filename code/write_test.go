package code_test

import (
	"math/rand"
	"slices"
	"strconv"
	"strings"
	"testing"

	"baler/api"
	"baler/bits"
	"baler/code"
	"baler/tables"
)

// least and greatest are the ends of all numbers.
const (
	least    = -1 << 63
	greatest = 1<<63 - 1
)

// short are numbers to be shown.
func short(l []int) []int { return l[:min(len(l), 40)] }

// field is a number as n bits, one letter each.
func field(v, n int) string { return strconv.FormatInt(int64(1<<n+v), 2)[1:] }

// packed are bits as bytes, with bits 0 behind them up to a whole one.
func packed(row string) string {
	row += strings.Repeat("0", (8-len(row)%8)%8)
	s := make([]byte, len(row)/8)
	for i := range row {
		s[i/8] = s[i/8]<<1 | row[i]&1
	}
	return string(s)
}

// plainPicks are picks as bits, as their chapter tells them, one letter each.
func plainPicks(l []int, t int) string {
	var row strings.Builder
	row.WriteString(field(t, 3) + field(len(l), 15))
	var list []int
	for table := range t {
		list = append(list, table)
	}
	for _, pick := range l {
		place := slices.Index(list, pick)
		list = slices.Insert(slices.Delete(list, place, place+1), 0, pick)
		row.WriteString(strings.Repeat("1", place) + "0")
	}
	return row.String()
}

// plainLens are lengths as bits, as their chapter tells them, one letter each.
func plainLens(lengths []int) string {
	row, last := field(lengths[0], 5), lengths[0]
	for _, length := range lengths {
		row += strings.Repeat("10", max(length-last, 0)) + strings.Repeat("11", max(last-length, 0)) + "0"
		last = length
	}
	return row
}

// plainCodes are each symbol's bits, as their chapter tells them, one letter each.
func plainCodes(lengths []int) []string {
	codes, code, last := make([]string, len(lengths)), -1, 0
	for n := 1; n <= 20; n++ {
		for symbol, length := range lengths {
			if length == n {
				code, last = (code+1)<<(n-last), n
				codes[symbol] = field(code, n)
			}
		}
	}
	return codes
}

// plainRow are a row's bits by a choice.
func plainRow(l []int, c tables.Choice) string {
	var row strings.Builder
	row.WriteString(plainPicks(c.Picks, len(c.Lens)))
	var codes [][]string
	for _, lengths := range c.Lens {
		row.WriteString(plainLens(lengths))
		codes = append(codes, plainCodes(lengths))
	}
	for i, symbol := range l {
		row.WriteString(codes[c.Picks[i/50]][symbol])
	}
	return row.String()
}

// someSymbols are n symbols, alike for a while, then of another part of the alphabet, and the end.
func someSymbols(random *rand.Rand, n, size int) []int {
	l := make([]int, 0, n+1)
	for len(l) < n {
		from := random.Intn(size - 1)
		width := 1 + random.Intn(size-1-from)
		for range min(1+random.Intn(100), n-len(l)) {
			l = append(l, from+random.Intn(1+random.Intn(width)))
		}
	}
	return append(l, size-1)
}

// someSize is how many symbols there may be, few or many.
func someSize(random *rand.Rand) int { return 3 + random.Intn(1<<random.Intn(9)) }

// notWritten is a row of a size that may not be written.
type notWritten struct {
	l    []int
	size int
}

// allNotWritten are no symbols, rows without an end and with two of them, and what is no symbol or no size, wherever it is.
func allNotWritten() []notWritten {
	var all []notWritten
	for _, size := range []int{3, 4, 50, 257, 258} {
		end := size - 1
		for _, l := range [][]int{nil, {}, {0}, {0, 1}, {end, 0}, {end, end}, {0, end, 0}, {0, end, end}, {end, 0, end}, {size}, {0, size}, {-1}, {end - 1}} {
			all = append(all, notWritten{l, size})
		}
		for _, bad := range []int{-1, -2, least, end, size, size + 1, 258, 259, 1 << 32, 1<<32 + 1, greatest} {
			for _, n := range []int{1, 2, 49, 50, 51, 100, 1000} {
				for _, i := range []int{0, n / 2, n - 1} {
					l := append(make([]int, n), end)
					l[i] = bad
					all = append(all, notWritten{l, size})
				}
			}
		}
		all = append(all, notWritten{make([]int, 50), size}, notWritten{make([]int, 1000), size})
	}
	for _, size := range []int{2, 1, 0, -1, -3, least, 259, 260, 1 << 32, 1<<32 + 3, greatest} {
		for _, l := range [][]int{nil, {0}, {size - 1}, {0, size - 1}, {0, 0, 2}, {258}} {
			all = append(all, notWritten{l, size})
		}
	}
	return all
}

// wantBits fails unless Bits tells this, and leaves the symbols as they are.
func wantBits(t *testing.T, l []int, size, want int, err api.Errno) {
	t.Helper()
	before := slices.Clone(l)
	if n, e := code.Bits(l, size); n != want || e != err {
		t.Fatalf("Bits(%v, %d) of %d: %d, %v, not %d, %v", short(l), size, len(l), n, e, want, err)
	}
	if !slices.Equal(l, before) {
		t.Fatalf("Bits changed %v to %v", short(before), short(l))
	}
}

// wantWrite fails unless Write tells this, and leaves the symbols as they are.
func wantWrite(t *testing.T, w *bits.Writer, l []int, size int, err api.Errno) {
	t.Helper()
	before := slices.Clone(l)
	if e := code.Write(w, l, size); e != err {
		t.Fatalf("Write(%v, %d) of %d: %v, not %v", short(l), size, len(l), e, err)
	}
	if !slices.Equal(l, before) {
		t.Fatalf("Write changed %v to %v", short(before), short(l))
	}
}

// wantWritten fails unless a row is written as these bits, and as many are told.
func wantWritten(t *testing.T, l []int, size int, want string) {
	t.Helper()
	wantBits(t, l, size, len(want), api.OK)
	w := bits.NewWriter()
	wantWrite(t, w, l, size, api.OK)
	if w.Len() != len(want) {
		t.Fatalf("Write(%v, %d): %d bits, not %d", short(l), size, w.Len(), len(want))
	}
	w.Pad()
	if s := w.Take(); s != packed(want) {
		t.Fatalf("Write(%v, %d): %x, not %x", short(l), size, s, packed(want))
	}
}

// plainBits are the bits of a row that may be written.
func plainBits(t *testing.T, l []int, size int) string {
	t.Helper()
	c, e := tables.Of(l, size)
	if e != api.OK {
		t.Fatalf("tables.Of(%v, %d) of %d: %v", short(l), size, len(l), e)
	}
	return plainRow(l, c)
}

// 14.1: the document's example, and others by hand.
func TestWrite(t *testing.T) {
	for _, c := range []struct {
		l    []int
		size int
		want string
	}{
		{[]int{0, 2}, 3, "010 000000000000001 0 | 00010 0 0 110 | 00010 0 0 110 | 10 0"},
		{[]int{2}, 3, "010 000000000000001 0 | 00010 0 0 110 | 00010 0 0 110 | 0"},
		{[]int{1, 0, 1, 2}, 3, "010 000000000000001 0 | 00010 0 110 100 | 00010 0 0 110 | 0 10 0 11"},
	} {
		wantWritten(t, c.l, c.size, strings.NewReplacer(" ", "", "|", "").Replace(c.want))
	}
}

// 14.1: rows of all kinds and sizes, with each number of tables, by the choice that layer 12 makes.
func TestWriteMany(t *testing.T) {
	random := rand.New(rand.NewSource(1))
	for size := 3; size <= 258; size++ {
		l := someSymbols(random, random.Intn(100), size)
		wantWritten(t, l, size, plainBits(t, l, size))
	}
	for _, n := range []int{0, 1, 2, 48, 49, 50, 51, 98, 99, 100, 198, 199, 200, 598, 599, 600, 1198, 1199, 1200, 2398, 2399, 2400, 2401, 5000} {
		for range 12 {
			size := someSize(random)
			l := someSymbols(random, n, size)
			wantWritten(t, l, size, plainBits(t, l, size))
		}
	}
}

// 14.1: all rows of few symbols.
func TestWriteAll(t *testing.T) {
	for size := 3; size <= 5; size++ {
		for n := range 5 {
			all := 1
			for range n {
				all *= size - 1
			}
			for i := range all {
				var l []int
				for range n {
					l = append(l, i%(size-1))
					i /= size - 1
				}
				l = append(l, size-1)
				wantWritten(t, l, size, plainBits(t, l, size))
			}
		}
	}
}

// 14.1: a row with codes of many lengths, of which some are the longest that may be.
func TestWriteLong(t *testing.T) {
	var l []int
	for symbol := range 24 {
		l = append(l, slices.Repeat([]int{symbol}, 1<<(max(symbol, 4)-4))...)
	}
	random := rand.New(rand.NewSource(2))
	random.Shuffle(len(l), func(i, j int) { l[i], l[j] = l[j], l[i] })
	l = append(l, 24)
	c, e := tables.Of(l, 25)
	if e != api.OK || !slices.Contains(slices.Concat(c.Lens...), 20) {
		t.Fatalf("no code has 20 bits: %v, %v", c.Lens, e)
	}
	wantWritten(t, l, 25, plainRow(l, c))
}

// 14.1: the bits stand behind those of the writer, wherever it is, and some of its bytes may have been taken.
func TestWriteBehind(t *testing.T) {
	random := rand.New(rand.NewSource(3))
	for ahead := range 33 {
		one, other := someSymbols(random, random.Intn(300), 258), someSymbols(random, random.Intn(9), 3)
		w := bits.NewWriter()
		w.Put(1<<ahead-1, ahead)
		taken := w.Take()
		wantWrite(t, w, one, 258, api.OK)
		wantWrite(t, w, other, 3, api.OK)
		all := strings.Repeat("1", ahead) + plainBits(t, one, 258) + plainBits(t, other, 3)
		if w.Len() != len(all) {
			t.Fatalf("%d ahead: %d bits, not %d", ahead, w.Len(), len(all))
		}
		w.Pad()
		if s := taken + w.Take(); s != packed(all) {
			t.Fatalf("%d ahead: %x, not %x", ahead, s, packed(all))
		}
	}
}

// 14.1: of rows that may not be written nothing is; a nil writer is told first (R1, R4).
func TestWriteErrors(t *testing.T) {
	w := bits.NewWriter()
	w.Put(5, 11)
	for _, c := range allNotWritten() {
		wantBits(t, c.l, c.size, 0, api.ErrArg)
		wantWrite(t, nil, c.l, c.size, api.ErrState)
		wantWrite(t, w, c.l, c.size, api.ErrArg)
		if w.Len() != 11 || w.Held() != 1 {
			t.Fatalf("Write(%v, %d) wrote: %d bits, %d bytes", short(c.l), c.size, w.Len(), w.Held())
		}
	}
	wantWrite(t, nil, []int{0, 2}, 3, api.ErrState)
	wantWrite(t, w, []int{0, 2}, 3, api.OK)
	w.Pad()
	if s := w.Take(); s != packed("00000000101"+plainBits(t, []int{0, 2}, 3)) {
		t.Errorf("Write behind errors: %x", s)
	}
}

// 14.1: as many groups as may be, and a symbol more, which is told behind what may not be (R1).
func TestWriteGroups(t *testing.T) {
	random := rand.New(rand.NewSource(4))
	const most = 32767 * 50
	l := someSymbols(random, most-1, 258)
	w := bits.NewWriter()
	wantWrite(t, w, l, 258, api.OK)
	wantBits(t, l, 258, w.Len(), api.OK)
	end := w.Len()
	w.Pad()
	wantRead(t, bits.NewReader(w.Take()), 258, most, l, api.OK, end)
	l[most-1] = 0
	l = append(l, 257)
	w = bits.NewWriter()
	wantBits(t, l, 258, 0, api.ErrLong)
	wantWrite(t, w, l, 258, api.ErrLong)
	wantWrite(t, nil, l, 258, api.ErrState)
	l[most] = 256
	wantBits(t, l, 258, 0, api.ErrArg)
	l[most], l[7] = 257, 257
	wantWrite(t, w, l, 258, api.ErrArg)
	l[7] = 258
	wantWrite(t, w, l, 258, api.ErrArg)
	if w.Len() != 0 || w.Held() != 0 {
		t.Errorf("Write wrote: %d bits", w.Len())
	}
}
