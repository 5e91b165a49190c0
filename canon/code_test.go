package canon_test

import (
	"math/rand"
	"slices"
	"strconv"
	"strings"
	"testing"

	"baler/api"
	"baler/canon"
)

// least and greatest are the ends of all numbers.
const (
	least    = -1 << 63
	greatest = 1<<63 - 1
)

// noSymbols are none of n symbols.
func noSymbols(n int) []int { return []int{-1, -2, least, n, n + 1, 259, 1 << 32, greatest} }

// short are numbers to be shown.
func short(l []int) []int { return l[:min(len(l), 40)] }

// plainCodes are the codes of lengths as the chapter tells them, each a text of its bits: 1 is counted on to the one ahead of it, and bits 0 are put behind.
func plainCodes(lengths []int) []string {
	codes := make([]string, len(lengths))
	last := ""
	for n := 1; n <= 20; n++ {
		for symbol, length := range lengths {
			if length != n {
				continue
			}
			if last == "" {
				last = strings.Repeat("0", n)
			} else {
				zero := strings.LastIndexByte(last, '0')
				last = last[:zero] + "1" + strings.Repeat("0", n-zero-1)
			}
			codes[symbol] = last
		}
	}
	return codes
}

// someWhole are lengths of a whole code: one of 0 is split in two again and again.
func someWhole(random *rand.Rand, n int) []int {
	lengths := []int{0}
	deep := random.Intn(2) == 0
	for len(lengths) < n {
		i := random.Intn(len(lengths))
		if deep && random.Intn(4) > 0 {
			i = len(lengths) - 1
		}
		if lengths[i] < 20 {
			lengths[i]++
			lengths = append(lengths, lengths[i])
		}
	}
	random.Shuffle(n, func(i, j int) { lengths[i], lengths[j] = lengths[j], lengths[i] })
	return lengths
}

// chain are the lengths of a whole code whose longest one is n: 1, 2, 3 .. n, n.
func chain(n int) []int {
	var lengths []int
	for i := range n {
		lengths = append(lengths, i+1)
	}
	return append(lengths, n)
}

// allFew calls with all rows of n lengths from 1 to most.
func allFew(n, most int, each func([]int)) {
	lengths := slices.Repeat([]int{1}, n)
	for more := true; more; {
		each(lengths)
		more = false
		for i := 0; i < n && !more; i++ {
			lengths[i]++
			if more = lengths[i] <= most; !more {
				lengths[i] = 1
			}
		}
	}
}

// areWhole is whether the share of lengths from 1 to 20 is 2^20.
func areWhole(lengths []int) bool {
	share := 0
	for _, n := range lengths {
		share += 1 << 20 >> n
	}
	return share == 1<<20
}

// code is the code of lengths; it fails, if there is none.
func code(t *testing.T, lengths []int) *canon.Code {
	t.Helper()
	before := slices.Clone(lengths)
	c, e := canon.New(lengths)
	if c == nil || e != api.OK || c.Size() != len(before) {
		t.Fatalf("New(%v): %v of %d, %v", short(before), c != nil, c.Size(), e)
	}
	if !slices.Equal(lengths, before) {
		t.Fatalf("New changed %v to %v", short(before), short(lengths))
	}
	return c
}

// wantNone fails unless New tells an error, and no code beside it.
func wantNone(t *testing.T, lengths []int, err api.Errno) {
	t.Helper()
	before := slices.Clone(lengths)
	if c, e := canon.New(lengths); c != nil || e != err {
		t.Fatalf("New(%v): %v, %v, not %v", short(before), c != nil, e, err)
	}
	if !slices.Equal(lengths, before) {
		t.Fatalf("New changed %v to %v", short(before), short(lengths))
	}
}

// wantCodes fails unless a code has these, and no other ones.
func wantCodes(t *testing.T, c *canon.Code, want []string) {
	t.Helper()
	if c.Size() != len(want) {
		t.Fatalf("Size: %d, not %d", c.Size(), len(want))
	}
	for symbol, bits := range want {
		value, _ := strconv.ParseUint(bits, 2, 32)
		if v, n, e := c.Of(symbol); uint64(v) != value || n != len(bits) || e != api.OK {
			t.Fatalf("Of(%d): %b, %d, %v, not %s", symbol, v, n, e, bits)
		}
	}
	for _, symbol := range noSymbols(len(want)) {
		if v, n, e := c.Of(symbol); v != 0 || n != 0 || e != api.ErrArg {
			t.Fatalf("Of(%d): %b, %d, %v", symbol, v, n, e)
		}
	}
}

// 10.1: codes by hand, those of lengths further apart too.
func TestCodes(t *testing.T) {
	for _, c := range []struct {
		lengths []int
		want    string
	}{
		{[]int{2, 1, 2}, "10 0 11"}, {[]int{1, 2, 2}, "0 10 11"}, {[]int{2, 2, 1}, "10 11 0"}, {[]int{2, 2, 2, 2}, "00 01 10 11"}, {[]int{3, 1, 3, 2}, "110 0 111 10"}, {[]int{3, 3, 2, 2, 2}, "110 111 00 01 10"},
		{[]int{4, 4, 3, 2, 1}, "1110 1111 110 10 0"}, {[]int{3, 1, 3, 3, 3}, "100 0 101 110 111"}, {[]int{4, 1, 4, 4, 2, 4}, "1100 0 1101 1110 10 1111"}, {[]int{4, 4, 1, 4, 4, 4, 4, 4, 4}, "1000 1001 0 1010 1011 1100 1101 1110 1111"},
	} {
		wantCodes(t, code(t, c.lengths), strings.Fields(c.want))
	}
}

// 10.1: all rows of few lengths, those that are no whole code too.
func TestNewFew(t *testing.T) {
	for n := 3; n <= 6; n++ {
		wholes := 0
		allFew(n, n, func(lengths []int) {
			if !areWhole(lengths) {
				wantNone(t, lengths, api.ErrTable)
				return
			}
			wholes++
			wantCodes(t, code(t, lengths), plainCodes(lengths))
		})
		if wholes == 0 {
			t.Errorf("%d lengths are never a whole code", n)
		}
	}
}

// 10.1: as many symbols as may be, with codes as long as may be.
func TestNewMany(t *testing.T) {
	random := rand.New(rand.NewSource(1))
	for n := 3; n <= 258; n++ {
		for range 4 {
			lengths := someWhole(random, n)
			wantCodes(t, code(t, lengths), plainCodes(lengths))
		}
	}
	for n := 2; n <= 20; n++ {
		lengths := chain(n)
		wantCodes(t, code(t, lengths), plainCodes(lengths))
		slices.Reverse(lengths)
		wantCodes(t, code(t, lengths), plainCodes(lengths))
	}
	lengths := slices.Repeat([]int{8}, 256)
	wantCodes(t, code(t, lengths), plainCodes(lengths))
}

// 10.1: too few lengths, or too many, whatever they are (R1).
func TestNewNumber(t *testing.T) {
	wantNone(t, nil, api.ErrArg)
	wantNone(t, []int{1, 1}, api.ErrArg)
	for _, n := range []int{0, 1, 2, 259, 260, 512, 1000, 100000} {
		for _, length := range []int{0, 1, 9, 20, 21, -1, least, greatest} {
			wantNone(t, slices.Repeat([]int{length}, n), api.ErrArg)
		}
	}
	wantNone(t, append(slices.Repeat([]int{8}, 253), 9, 9, 9, 9, 9, 9), api.ErrArg) // whole, but of 259
}

// 10.1: lengths that may not be, first, last or between, though the others be whole.
func TestNewNoLength(t *testing.T) {
	for _, bad := range []int{0, -1, -2, least, 21, 22, 64, 1 << 32, 1<<32 + 1, greatest} {
		for _, l := range [][]int{{bad, 1, 1}, {1, bad, 1}, {1, 1, bad}, {bad, 1, 2}, {1, 2, 2, bad}, {bad, bad, bad}, {20, 20, bad}} {
			wantNone(t, l, api.ErrTable)
		}
		l := slices.Repeat([]int{8}, 256)
		for _, i := range []int{0, 100, 255} {
			l[i] = bad
			wantNone(t, l, api.ErrTable)
			l[i] = 8
		}
		wantNone(t, append(l, bad), api.ErrTable)
	}
}

// 10.1: a share that is greater than 2^20, or less, be it by 1.
func TestNewShare(t *testing.T) {
	random := rand.New(rand.NewSource(2))
	for range 300 {
		l := someWhole(random, 4+random.Intn(254))
		for i, length := range l {
			for _, other := range []int{length - 1, length + 1} {
				l[i] = other
				wantNone(t, l, api.ErrTable)
			}
			l[i] = length
		}
		wantNone(t, append(slices.Clone(l), 20), api.ErrTable)
		wantNone(t, l[1:], api.ErrTable)
	}
	wantNone(t, chain(20)[1:], api.ErrTable)
	wantNone(t, chain(20)[:20], api.ErrTable)
	wantNone(t, append(chain(20), 20), api.ErrTable)
	wantNone(t, append([]int{1}, chain(20)...), api.ErrTable) // one and a half
	wantNone(t, slices.Repeat([]int{1}, 4), api.ErrTable)     // twice the share
	wantNone(t, slices.Repeat([]int{1}, 256), api.ErrTable)
	wantNone(t, slices.Repeat([]int{20}, 258), api.ErrTable)
}

// 10.3: no code is the beginning of another one.
func TestNoBeginning(t *testing.T) {
	random := rand.New(rand.NewSource(3))
	for range 100 {
		lengths := someWhole(random, 3+random.Intn(256))
		c := code(t, lengths)
		for a := range lengths {
			for b := range lengths {
				x, n, _ := c.Of(a)
				y, m, _ := c.Of(b)
				if a != b && n <= m && y>>(m-n) == x {
					t.Fatalf("%0*b begins %0*b", n, x, m, y)
				}
			}
		}
	}
}

// R3: what becomes of the lengths that were handed in changes nothing, nor do other codes.
func TestApart(t *testing.T) {
	lengths := []int{3, 1, 3, 2}
	want := plainCodes(lengths)
	c := code(t, lengths)
	for i := range lengths {
		lengths[i] = 2
	}
	other := code(t, lengths)
	wantCodes(t, c, want)
	wantCodes(t, other, plainCodes(lengths))
}

// 10.1: of nil, and of what New did not make.
func TestNil(t *testing.T) {
	for _, c := range []*canon.Code{nil, {}} {
		if c.Size() != 0 {
			t.Errorf("Size: %d", c.Size())
		}
		for _, symbol := range append(noSymbols(3), 0, 1, 258) {
			if v, n, e := c.Of(symbol); v != 0 || n != 0 || e != api.ErrState {
				t.Errorf("Of(%d): %b, %d, %v", symbol, v, n, e)
			}
		}
	}
}
