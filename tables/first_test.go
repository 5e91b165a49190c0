package tables_test

import (
	"math/rand"
	"slices"
	"testing"

	"baler/api"
	"baler/freq"
	"baler/tables"
)

// least and greatest are the ends of all numbers.
const (
	least    = -1 << 63
	greatest = 1<<63 - 1
)

// short are numbers to be shown.
func short(l []int) []int { return l[:min(len(l), 40)] }

// sameRows tells whether two tables' lengths are the same, row by row.
func sameRows(a, b [][]int) bool {
	if len(a) != len(b) {
		return false
	}
	for i := range a {
		if !slices.Equal(a[i], b[i]) {
			return false
		}
	}
	return true
}

// plainNumber is how many tables there are, as the chapter tells it.
func plainNumber(n int) int {
	switch {
	case n < 200:
		return 2
	case n < 600:
		return 3
	case n < 1200:
		return 4
	case n < 2400:
		return 5
	}
	return 6
}

// someCounts are counts of an alphabet, some of them 0.
func someCounts(random *rand.Rand) []int {
	counts, most := make([]int, 3+random.Intn(1<<random.Intn(9))), 1<<random.Intn(8)
	for i := range counts {
		counts[i] = max(random.Intn(2*most)-most/2, 0)
	}
	return counts
}

// wantNoFirst fails unless First tells that this may not be, and leaves the counts as they are.
func wantNoFirst(t *testing.T, counts []int, n int) {
	t.Helper()
	before := slices.Clone(counts)
	if f, e := tables.First(counts, n); len(f) != 0 || e != api.ErrArg {
		t.Fatalf("First(%v, %d) of %d: %v, %v", short(counts), n, len(counts), f, e)
	}
	if !slices.Equal(counts, before) {
		t.Fatalf("First changed %v to %v", short(before), short(counts))
	}
}

// wantFirst fails unless each symbol belongs to the table that these are, and leaves the counts as they are.
func wantFirst(t *testing.T, counts []int, n int, belongs []int) {
	t.Helper()
	before := slices.Clone(counts)
	f, e := tables.First(counts, n)
	if e != api.OK || len(f) != plainNumber(n) {
		t.Fatalf("First(%v, %d): %d tables, %v", short(counts), n, len(f), e)
	}
	for table, row := range f {
		want := make([]int, len(counts))
		for symbol, own := range belongs {
			if own != table {
				want[symbol] = 15
			}
		}
		if !slices.Equal(row, want) {
			t.Fatalf("First(%v, %d): table %d is %v, not %v", short(counts), n, table, short(row), short(want))
		}
	}
	if !slices.Equal(counts, before) {
		t.Fatalf("First changed %v to %v", short(before), short(counts))
	}
}

// plainBelongs are the tables of symbols as the chapter tells them, found by trying: as many as the row's n symbols are below are at least so many n'ths.
func plainBelongs(counts []int, n int) []int {
	number, belongs := plainNumber(n), make([]int, len(counts))
	for symbol := range counts {
		below := 0
		for _, count := range counts[:symbol] {
			below += count
		}
		below = min(below, n-1)
		for (belongs[symbol]+1)*n <= below*number {
			belongs[symbol]++
		}
	}
	return belongs
}

// 12.1: all numbers counted up, those at the edges, and numbers below 0.
func TestNumber(t *testing.T) {
	for n, want := range map[int]int{
		0: 2, 1: 2, 199: 2, 200: 3, 599: 3, 600: 4, 1199: 4, 1200: 5, 2399: 5, 2400: 6, 2401: 6, 900001: 6, 1 << 32: 6, 1<<32 + 5: 6, api.MaxInt: 6, greatest: 6,
		-1: 2, -200: 2, -2400: 2, least: 2, least + 2400: 2,
	} {
		if number := tables.Number(n); number != want {
			t.Errorf("Number(%d): %d, not %d", n, number, want)
		}
	}
	for n := range 10000 {
		if number := tables.Number(n); number != plainNumber(n) {
			t.Fatalf("Number(%d): %d, not %d", n, number, plainNumber(n))
		}
	}
}

// 12.1: tables at first, by hand: symbols behind all others, too, belong to the last one at most.
func TestFirst(t *testing.T) {
	for _, c := range []struct{ counts, belongs []int }{
		{[]int{4, 0, 3, 1}, []int{0, 1, 1, 1}}, {[]int{1, 1, 1}, []int{0, 0, 1}}, {[]int{1, 0, 0}, []int{0, 0, 0}}, {[]int{0, 0, 1}, []int{0, 0, 0}}, {[]int{2, 0, 0}, []int{0, 1, 1}},
		{[]int{3, 1, 4, 0, 0}, []int{0, 0, 1, 1, 1}}, {[]int{199, 0, 0}, []int{0, 1, 1}}, {[]int{99, 1, 99}, []int{0, 0, 1}}, {[]int{66, 1, 66, 1, 66}, []int{0, 0, 1, 1, 2}}, {[]int{67, 67, 66}, []int{0, 1, 2}},
		{[]int{100, 100, 100, 100, 100, 100}, []int{0, 0, 1, 2, 2, 3}}, {[]int{2400, 0, 0}, []int{0, 5, 5}}, {[]int{400, 400, 400, 400, 400, 400}, []int{0, 1, 2, 3, 4, 5}}, {[]int{399, 1, 399, 2, 1599}, []int{0, 0, 1, 1, 2}},
	} {
		wantFirst(t, c.counts, freq.Total(c.counts), c.belongs)
	}
}

// 12.1: counts of all kinds, at each edge of how many tables there are, too.
func TestFirstMany(t *testing.T) {
	random := rand.New(rand.NewSource(1))
	for range 3000 {
		counts := someCounts(random)
		if n := freq.Total(counts); n > 0 {
			wantFirst(t, counts, n, plainBelongs(counts, n))
		}
	}
	for _, bound := range []int{200, 600, 1200, 2400} {
		for n := bound - 2; n <= bound+2; n++ {
			for range 50 {
				counts := make([]int, 3+random.Intn(256))
				for range n {
					counts[random.Intn(len(counts))]++
				}
				wantFirst(t, counts, n, plainBelongs(counts, n))
			}
		}
	}
}

// 12.1: as great as counts may be: together they are api.MaxInt at most.
func TestFirstGreat(t *testing.T) {
	const most = api.MaxInt
	for _, c := range []struct{ counts, belongs []int }{
		{[]int{most, 0, 0}, []int{0, 5, 5}}, {[]int{0, 0, most}, []int{0, 0, 0}}, {[]int{most, most, most}, []int{0, 5, 5}}, {[]int{most - 1, 1, 0}, []int{0, 5, 5}},
		{[]int{most / 2, most / 2, 0}, []int{0, 3, 5}}, {[]int{most/2 - 1, 1, most / 2}, []int{0, 2, 3}}, {[]int{most / 2, most / 2, most / 2, most / 2}, []int{0, 3, 5, 5}},
		{slices.Repeat([]int{most}, 258), append([]int{0}, slices.Repeat([]int{5}, 257)...)},
	} {
		wantFirst(t, c.counts, most, c.belongs)
	}
	wantFirst(t, []int{most - 1, 0, 0}, most-1, []int{0, 5, 5})
	wantNoFirst(t, []int{most - 1, 0, 0}, most)
	wantNoFirst(t, []int{most, 1, 0}, most+1) // freq.Total tells less
	wantNoFirst(t, []int{most, most, 0}, 2*most)
}

// 12.1: too few counts, too many, ones that may not be, and those that are not n together.
func TestFirstErrors(t *testing.T) {
	for _, size := range []int{0, 1, 2, 259, 260, 1000} {
		counts := slices.Repeat([]int{1}, size)
		wantNoFirst(t, counts, size)
		wantNoFirst(t, counts, 1)
	}
	wantNoFirst(t, nil, 0)
	for _, bad := range []int{-1, -2, least, api.MaxInt + 1, api.MaxInt + 2, 1 << 62, greatest} {
		for i := range 4 {
			counts := []int{1, 1, 1, 1}
			counts[i] = bad
			for _, n := range []int{freq.Total(counts), 3, 4, 3 + bad, api.MaxInt} {
				wantNoFirst(t, counts, n)
			}
		}
	}
	for _, n := range []int{0, -1, -6, 5, 7, 1<<32 + 6, least, greatest, api.MaxInt} {
		wantNoFirst(t, []int{1, 2, 3}, n)
	}
	for _, n := range []int{0, 1, -1, least, greatest} {
		wantNoFirst(t, make([]int, 3), n)
		wantNoFirst(t, make([]int, 258), n)
	}
}

// R3: the rows of an answer share nothing with each other, nor with what was handed in, nor with a later answer.
func TestFirstApart(t *testing.T) {
	counts := []int{1000, 1000, 1000}
	f, _ := tables.First(counts, 3000)
	for _, row := range f {
		_ = append(row, -6)
		for i := range row {
			if row[i] < 0 {
				t.Fatalf("rows of one answer share memory: %v", f)
			}
			row[i] = -5
		}
	}
	wantFirst(t, counts, 3000, []int{0, 2, 4})
}
