package picks_test

import (
	"math/rand"
	"slices"
	"strconv"
	"strings"
	"testing"

	"baler/api"
	"baler/bits"
	"baler/picks"
)

// least and greatest are the ends of all numbers.
const (
	least    = -1 << 63
	greatest = 1<<63 - 1
)

// short are numbers to be shown.
func short(l []int) []int { return l[:min(len(l), 40)] }

// field is a number as n bits, one letter each.
func field(v, n int) string { return strconv.FormatInt(int64(1<<n+v), 2)[1:] }

// plainBits are picks as bits, as the chapter tells them, one letter each.
func plainBits(l []int, t int) string {
	var row strings.Builder
	row.WriteString(field(t, 3) + field(len(l), 15))
	var list []int
	for table := range t {
		list = append(list, table)
	}
	for _, pick := range l {
		place := slices.Index(list, pick)
		list = slices.Insert(slices.Delete(list, place, place+1), 0, pick)
		row.WriteString(strings.Repeat("1", place) + "0")
	}
	return row.String()
}

// packed are bits as bytes, with bits 0 behind them up to a whole one.
func packed(row string) string {
	row += strings.Repeat("0", (8-len(row)%8)%8)
	s := make([]byte, len(row)/8)
	for i := range row {
		s[i/8] = s[i/8]<<1 | row[i]&1
	}
	return string(s)
}

// somePicks are n picks of t tables, of which many or few are alike.
func somePicks(random *rand.Rand, n, t int) []int {
	l, often := make([]int, n), 1+random.Intn(20)
	last := random.Intn(t)
	for i := range l {
		if random.Intn(often) == 0 {
			last = random.Intn(t)
		}
		l[i] = last
	}
	return l
}

// eachRow calls with all rows of n picks of t tables.
func eachRow(n, t int, each func([]int)) {
	row := make([]int, n)
	for {
		each(row)
		i := 0
		for ; i < n && row[i] == t-1; i++ {
			row[i] = 0
		}
		if i == n {
			return
		}
		row[i]++
	}
}

// notWritten is picks of so many tables that may not be written.
type notWritten struct {
	l []int
	t int
}

// allNotWritten are no picks and too many, too few tables and too many, and what is no table, wherever it is.
func allNotWritten() []notWritten {
	var all []notWritten
	for t := 2; t <= 6; t++ {
		all = append(all, notWritten{nil, t}, notWritten{[]int{}, t}, notWritten{make([]int, 32768), t}, notWritten{make([]int, 65537), t})
		for _, bad := range []int{-1, -2, least, t, t + 1, 6, 7, 8, 1 << 32, 1<<32 + 1, greatest} {
			for _, n := range []int{1, 2, 3, 50, 32767} {
				for _, i := range []int{0, n / 2, n - 1} {
					l := make([]int, n)
					l[i] = bad
					all = append(all, notWritten{l, t})
				}
			}
		}
	}
	for _, t := range []int{1, 0, -1, -2, least, 7, 8, 9, 10, 1 << 32, 1<<32 + 2, greatest} {
		all = append(all, notWritten{nil, t}, notWritten{[]int{0}, t}, notWritten{[]int{0, 0, 0}, t}, notWritten{make([]int, 32767), t}, notWritten{make([]int, 32768), t})
	}
	return all
}

// wantBits fails unless Bits tells this, and leaves the picks as they are.
func wantBits(t *testing.T, l []int, tables, want int, err api.Errno) {
	t.Helper()
	before := slices.Clone(l)
	if n, e := picks.Bits(l, tables); n != want || e != err {
		t.Fatalf("Bits(%v, %d) of %d: %d, %v, not %d, %v", short(l), tables, len(l), n, e, want, err)
	}
	if !slices.Equal(l, before) {
		t.Fatalf("Bits changed %v to %v", short(before), short(l))
	}
}

// wantWrite fails unless Write tells this, and leaves the picks as they are.
func wantWrite(t *testing.T, w *bits.Writer, l []int, tables int, err api.Errno) {
	t.Helper()
	before := slices.Clone(l)
	if e := picks.Write(w, l, tables); e != err {
		t.Fatalf("Write(%v, %d) of %d: %v, not %v", short(l), tables, len(l), e, err)
	}
	if !slices.Equal(l, before) {
		t.Fatalf("Write changed %v to %v", short(before), short(l))
	}
}

// wantWritten fails unless picks are written as these bits, and as many are told.
func wantWritten(t *testing.T, l []int, tables int, want string) {
	t.Helper()
	wantBits(t, l, tables, len(want), api.OK)
	w := bits.NewWriter()
	wantWrite(t, w, l, tables, api.OK)
	if w.Len() != len(want) {
		t.Fatalf("Write(%v, %d): %d bits, not %d", short(l), tables, w.Len(), len(want))
	}
	w.Pad()
	if s := w.Take(); s != packed(want) {
		t.Fatalf("Write(%v, %d): %x, not %x", short(l), tables, s, packed(want))
	}
}

// 13.1: the document's example, and others by hand.
func TestWrite(t *testing.T) {
	for _, c := range []struct {
		l    []int
		t    int
		want string
	}{
		{[]int{1, 1, 0}, 2, "010 000000000000011 10 0 10"}, {[]int{0}, 2, "010 000000000000001 0"}, {[]int{0}, 6, "110 000000000000001 0"},
		{[]int{5}, 6, "110 000000000000001 111110"}, {[]int{2, 1, 0}, 3, "011 000000000000011 110 110 110"}, {[]int{2, 2, 0, 1, 0}, 3, "011 000000000000101 110 0 10 110 10"},
		{[]int{3, 0, 4, 3, 1}, 5, "101 000000000000101 1110 10 11110 110 1110"},
	} {
		wantWritten(t, c.l, c.t, strings.ReplaceAll(c.want, " ", ""))
	}
}

// 13.1: all rows of few picks, and longer ones of all kinds.
func TestWriteMany(t *testing.T) {
	random := rand.New(rand.NewSource(1))
	for tables := 2; tables <= 6; tables++ {
		for n := 1; n <= 5; n++ {
			eachRow(n, tables, func(l []int) { wantWritten(t, l, tables, plainBits(l, tables)) })
		}
		for range 300 {
			l := somePicks(random, 1+random.Intn(1<<random.Intn(11)), tables)
			wantWritten(t, l, tables, plainBits(l, tables))
		}
		for _, n := range []int{255, 256, 257, 16383, 16384, 32766, 32767} {
			l := somePicks(random, n, tables)
			wantWritten(t, l, tables, plainBits(l, tables))
		}
	}
}

// 13.1: the most bits that picks may have, and the least.
func TestWriteEnds(t *testing.T) {
	for tables := 2; tables <= 6; tables++ {
		l := make([]int, 32767)
		wantBits(t, l, tables, 18+32767, api.OK)
		for i := range l {
			l[i] = tables - 1 - i%tables
		}
		wantBits(t, l, tables, 18+32767*tables, api.OK)
		wantWritten(t, l, tables, field(tables, 3)+field(32767, 15)+strings.Repeat(strings.Repeat("1", tables-1)+"0", 32767))
	}
}

// 13.1: the bits stand behind those of the writer, wherever it is, and some of its bytes may have been taken.
func TestWriteBehind(t *testing.T) {
	random := rand.New(rand.NewSource(2))
	for ahead := range 33 {
		one, other := somePicks(random, 1+random.Intn(300), 2+ahead%5), somePicks(random, 1+random.Intn(9), 6-ahead%5)
		w := bits.NewWriter()
		w.Put(1<<ahead-1, ahead)
		taken := w.Take()
		wantWrite(t, w, one, 2+ahead%5, api.OK)
		wantWrite(t, w, other, 6-ahead%5, api.OK)
		all := strings.Repeat("1", ahead) + plainBits(one, 2+ahead%5) + plainBits(other, 6-ahead%5)
		if w.Len() != len(all) {
			t.Fatalf("%d ahead: %d bits, not %d", ahead, w.Len(), len(all))
		}
		w.Pad()
		if s := taken + w.Take(); s != packed(all) {
			t.Fatalf("%d ahead: %x, not %x", ahead, s, packed(all))
		}
	}
}

// 13.1: of picks that may not be written nothing is; a nil writer is told first (R1, R4).
func TestWriteErrors(t *testing.T) {
	w := bits.NewWriter()
	w.Put(5, 11)
	for _, c := range allNotWritten() {
		wantBits(t, c.l, c.t, 0, api.ErrArg)
		wantWrite(t, nil, c.l, c.t, api.ErrState)
		wantWrite(t, w, c.l, c.t, api.ErrArg)
		if w.Len() != 11 || w.Held() != 1 {
			t.Fatalf("Write(%v, %d) wrote: %d bits, %d bytes", short(c.l), c.t, w.Len(), w.Held())
		}
	}
	wantWrite(t, nil, []int{0, 1}, 2, api.ErrState)
	wantWrite(t, w, []int{0, 1}, 2, api.OK)
	w.Pad()
	if s := w.Take(); s != packed("00000000101"+plainBits([]int{0, 1}, 2)) {
		t.Errorf("Write behind errors: %x", s)
	}
}
