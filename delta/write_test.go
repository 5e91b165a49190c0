package delta_test

import (
	"math/rand"
	"slices"
	"strconv"
	"strings"
	"testing"

	"baler/api"
	"baler/bits"
	"baler/delta"
)

// least and greatest are the ends of all numbers.
const (
	least    = -1 << 63
	greatest = 1<<63 - 1
)

// short are numbers to be shown.
func short(l []int) []int { return l[:min(len(l), 40)] }

// plainBits are lengths as bits, as the chapter tells them, one letter each.
func plainBits(lengths []int) string {
	row := strconv.FormatInt(int64(32+lengths[0]), 2)[1:]
	last := lengths[0]
	for _, length := range lengths {
		if length > last {
			row += strings.Repeat("10", length-last)
		}
		if length < last {
			row += strings.Repeat("11", last-length)
		}
		row, last = row+"0", length
	}
	return row
}

// packed are bits as bytes, with bits 0 behind them up to a whole one.
func packed(row string) string {
	row += strings.Repeat("0", (8-len(row)%8)%8)
	s := make([]byte, len(row)/8)
	for i := range row {
		s[i/8] = s[i/8]<<1 | row[i]&1
	}
	return string(s)
}

// someLengths are n lengths, of which many or few are alike or near each other.
func someLengths(random *rand.Rand, n int) []int {
	lengths, far := make([]int, n), 1+random.Intn(1<<random.Intn(5))
	last := 1 + random.Intn(20)
	for i := range lengths {
		last = min(max(last+random.Intn(2*far+1)-far, 1), 20)
		lengths[i] = last
	}
	return lengths
}

// zigzag are n lengths, as far apart as may be.
func zigzag(n int) []int { return slices.Repeat([]int{1, 20}, n)[:n] }

// eachThree calls with all rows of three lengths.
func eachThree(each func([]int)) {
	for i := range 8000 {
		each([]int{1 + i%20, 1 + i/20%20, 1 + i/400})
	}
}

// notWritten are rows that may not be written: too few lengths, too many, and what is no length, wherever it is.
func notWritten() [][]int {
	rows := [][]int{nil, {}, {1}, {1, 1}, {20, 1}, {0}, {21, 21}}
	for _, n := range []int{259, 260, 516, 1000} {
		rows = append(rows, slices.Repeat([]int{5}, n))
	}
	for _, bad := range []int{0, -1, -2, least, 21, 22, 32, 33, 1 << 32, 1<<32 + 1, greatest} {
		for _, n := range []int{3, 4, 257, 258} {
			for _, i := range []int{0, 1, n / 2, n - 1} {
				row := slices.Repeat([]int{5}, n)
				row[i] = bad
				rows = append(rows, row)
			}
			rows = append(rows, slices.Repeat([]int{bad}, n))
		}
	}
	return rows
}

// wantBits fails unless Bits tells this, and leaves the lengths as they are.
func wantBits(t *testing.T, lengths []int, want int, err api.Errno) {
	t.Helper()
	before := slices.Clone(lengths)
	if n, e := delta.Bits(lengths); n != want || e != err {
		t.Fatalf("Bits(%v) of %d: %d, %v, not %d, %v", short(lengths), len(lengths), n, e, want, err)
	}
	if !slices.Equal(lengths, before) {
		t.Fatalf("Bits changed %v to %v", short(before), short(lengths))
	}
}

// wantWrite fails unless Write tells this, and leaves the lengths as they are.
func wantWrite(t *testing.T, w *bits.Writer, lengths []int, err api.Errno) {
	t.Helper()
	before := slices.Clone(lengths)
	if e := delta.Write(w, lengths); e != err {
		t.Fatalf("Write(%v) of %d: %v, not %v", short(lengths), len(lengths), e, err)
	}
	if !slices.Equal(lengths, before) {
		t.Fatalf("Write changed %v to %v", short(before), short(lengths))
	}
}

// wantWritten fails unless lengths are written as these bits, and as many are told.
func wantWritten(t *testing.T, lengths []int, want string) {
	t.Helper()
	wantBits(t, lengths, len(want), api.OK)
	w := bits.NewWriter()
	wantWrite(t, w, lengths, api.OK)
	if w.Len() != len(want) {
		t.Fatalf("Write(%v): %d bits, not %d", short(lengths), w.Len(), len(want))
	}
	w.Pad()
	if s := w.Take(); s != packed(want) {
		t.Fatalf("Write(%v): %x, not %s", short(lengths), s, want)
	}
}

// 11.1: the document's example, and others by hand.
func TestWrite(t *testing.T) {
	for _, c := range []struct {
		lengths []int
		want    string
	}{
		{[]int{2, 1, 2}, "00010 0 11 0 10 0"}, {[]int{1, 1, 1}, "00001 0 0 0"}, {[]int{20, 20, 20}, "10100 0 0 0"}, {[]int{5, 6, 5}, "00101 0 10 0 11 0"},
		{[]int{16, 18, 18, 15}, "10000 0 1010 0 0 111111 0"}, {[]int{3, 3, 3, 3, 2, 2, 4}, "00011 0 0 0 0 11 0 0 1010 0"}, {[]int{8, 4, 8}, "01000 0 11111111 0 10101010 0"},
	} {
		wantWritten(t, c.lengths, strings.ReplaceAll(c.want, " ", ""))
	}
}

// 11.1: all rows of three lengths, and longer ones of all kinds.
func TestWriteMany(t *testing.T) {
	random := rand.New(rand.NewSource(1))
	eachThree(func(lengths []int) { wantWritten(t, lengths, plainBits(lengths)) })
	for n := 3; n <= 258; n++ {
		wantWritten(t, zigzag(n), plainBits(zigzag(n)))
		for range 10 {
			lengths := someLengths(random, n)
			wantWritten(t, lengths, plainBits(lengths))
		}
	}
}

// 11.1: the bits stand behind those of the writer, wherever it is, and some of its bytes may have been taken.
func TestWriteBehind(t *testing.T) {
	random := rand.New(rand.NewSource(2))
	for ahead := range 33 {
		one, other := someLengths(random, 3+random.Intn(256)), someLengths(random, 3+random.Intn(20))
		w := bits.NewWriter()
		w.Put(1<<ahead-1, ahead)
		taken := w.Take()
		wantWrite(t, w, one, api.OK)
		wantWrite(t, w, other, api.OK)
		all := strings.Repeat("1", ahead) + plainBits(one) + plainBits(other)
		if w.Len() != len(all) {
			t.Fatalf("%d ahead: %d bits, not %d", ahead, w.Len(), len(all))
		}
		w.Pad()
		if s := taken + w.Take(); s != packed(all) {
			t.Fatalf("%d ahead: %x, not %x", ahead, s, packed(all))
		}
	}
}

// 11.1: of lengths that may not be written nothing is; a nil writer is told first (R1, R4).
func TestWriteErrors(t *testing.T) {
	w := bits.NewWriter()
	w.Put(5, 11)
	for _, row := range notWritten() {
		wantBits(t, row, 0, api.ErrArg)
		wantWrite(t, nil, row, api.ErrState)
		wantWrite(t, w, row, api.ErrArg)
		if w.Len() != 11 || w.Held() != 1 {
			t.Fatalf("Write(%v) wrote: %d bits, %d bytes", short(row), w.Len(), w.Held())
		}
	}
	wantWrite(t, nil, []int{1, 2, 2}, api.ErrState)
	wantWrite(t, nil, zigzag(258), api.ErrState)
	wantWrite(t, w, []int{1, 2, 2}, api.OK)
	w.Pad()
	if s := w.Take(); s != packed("00000000101"+plainBits([]int{1, 2, 2})) {
		t.Errorf("Write behind errors: %x", s)
	}
}

// 11.5: lengths take at least a bit each, and 5; no more, if all are alike.
func TestLeastBits(t *testing.T) {
	random := rand.New(rand.NewSource(3))
	for n := 3; n <= 258; n++ {
		for length := 1; length <= 20; length++ {
			lengths := slices.Repeat([]int{length}, n)
			wantBits(t, lengths, n+5, api.OK)
			lengths[random.Intn(n)] += 1 - 2*(length/20)
			if got, e := delta.Bits(lengths); got <= n+5 || e != api.OK {
				t.Fatalf("Bits(%v): %d, %v", short(lengths), got, e)
			}
		}
	}
}
