package freq_test

import (
	"math/rand"
	"slices"
	"testing"

	"baler/api"
	"baler/freq"
)

// least and greatest are the ends of all numbers.
const (
	least    = -1 << 63
	greatest = 1<<63 - 1
)

// short are numbers to be shown.
func short(l []int) []int { return l[:min(len(l), 30)] }

// someSymbols are symbols of an alphabet of so many.
func someSymbols(random *rand.Rand, n, size int) []int {
	l := make([]int, n)
	for i := range l {
		l[i] = random.Intn(1 + random.Intn(size))
	}
	return l
}

// howOften is how often a symbol is there.
func howOften(l []int, symbol int) int {
	n := 0
	for _, s := range l {
		if s == symbol {
			n++
		}
	}
	return n
}

// wantCounts fails unless Counts tells this, and leaves its symbols as they are.
func wantCounts(t *testing.T, l []int, size int, want []int, err api.Errno) {
	t.Helper()
	before := slices.Clone(l)
	if c, e := freq.Counts(l, size); !slices.Equal(c, want) || e != err {
		t.Fatalf("Counts(%v, %d): %v, %v, not %v, %v", short(l), size, short(c), e, short(want), err)
	}
	if !slices.Equal(l, before) {
		t.Fatalf("Counts changed %v to %v", short(before), short(l))
	}
}

// wantAdd fails unless Add tells this, of both either way round, and leaves them as they are.
func wantAdd(t *testing.T, a, b, want []int, err api.Errno) {
	t.Helper()
	beforeA, beforeB := slices.Clone(a), slices.Clone(b)
	for range 2 {
		if c, e := freq.Add(a, b); !slices.Equal(c, want) || e != err {
			t.Fatalf("Add(%v, %v): %v, %v, not %v, %v", short(a), short(b), short(c), e, short(want), err)
		}
		a, b = b, a
	}
	if !slices.Equal(a, beforeA) || !slices.Equal(b, beforeB) {
		t.Fatalf("Add changed %v and %v to %v and %v", short(beforeA), short(beforeB), short(a), short(b))
	}
}

// 8.1: the example of the chapter, and others by hand.
func TestCountsByHand(t *testing.T) {
	for _, c := range []struct {
		l    []int
		size int
		want []int
	}{
		{[]int{0, 2, 2}, 3, []int{1, 0, 2}}, {nil, 3, []int{0, 0, 0}}, {[]int{}, 5, make([]int, 5)}, {nil, 258, make([]int, 258)},
		{[]int{0}, 3, []int{1, 0, 0}}, {[]int{2}, 3, []int{0, 0, 1}}, {[]int{3, 1, 3, 0}, 4, []int{1, 1, 0, 2}},
		{[]int{1, 1, 1, 1}, 3, []int{0, 4, 0}}, {[]int{4, 3, 2, 1, 0, 4}, 6, []int{1, 1, 1, 1, 2, 0}},
	} {
		wantCounts(t, c.l, c.size, c.want, api.OK)
	}
}

// 8.1: each size, and each of its symbols.
func TestCountsEach(t *testing.T) {
	for size := 3; size <= 258; size++ {
		var all []int
		for symbol := range size {
			want := make([]int, size)
			want[symbol] = 2
			wantCounts(t, []int{symbol, symbol}, size, want, api.OK)
			all = append(all, symbol)
		}
		wantCounts(t, all, size, slices.Repeat([]int{1}, size), api.OK)
	}
}

// 8.1: sizes that are none, of any symbols.
func TestCountsNoSize(t *testing.T) {
	for _, size := range []int{2, 1, 0, -1, -3, least, 259, 260, 1000, 1 << 32, 1<<32 + 3, greatest} {
		for _, l := range [][]int{nil, {0}, {1, 1}, {-1}, {300}} {
			wantCounts(t, l, size, nil, api.ErrArg)
		}
	}
}

// 8.1: what is no symbol, first, last or between, and nothing beside the error.
func TestCountsNone(t *testing.T) {
	for _, size := range []int{3, 4, 50, 257, 258} {
		for _, bad := range []int{-1, -2, least, size, size + 1, 259, 1 << 32, greatest} {
			for _, l := range [][]int{{bad}, {bad, 0}, {0, bad}, {0, bad, size - 1}, {bad, bad}} {
				wantCounts(t, l, size, nil, api.ErrArg)
			}
		}
	}
	wantCounts(t, append(make([]int, 100000), 3), 3, nil, api.ErrArg)
}

// 8.1: many rows, counted symbol by symbol.
func TestCountsMany(t *testing.T) {
	random := rand.New(rand.NewSource(1))
	for range 300 {
		size := 3 + random.Intn(256)
		l := someSymbols(random, random.Intn(400), size)
		want := make([]int, size)
		for symbol := range want {
			want[symbol] = howOften(l, symbol)
		}
		wantCounts(t, l, size, want, api.OK)
	}
	want := make([]int, 258)
	want[257] = 900001
	wantCounts(t, slices.Repeat([]int{257}, 900001), 258, want, api.OK)
}

// 8.3: counts together, number by number, by hand.
func TestAdd(t *testing.T) {
	for _, c := range [][3][]int{
		{nil, nil, nil}, {{}, nil, nil}, {{0}, {0}, {0}}, {{1}, {2}, {3}}, {{1, 0, 5}, {0, 2, 7}, {1, 2, 12}},
		{make([]int, 1000), slices.Repeat([]int{4}, 1000), slices.Repeat([]int{4}, 1000)},
	} {
		wantAdd(t, c[0], c[1], c[2], api.OK)
	}
}

// 8.3: each number is at most MaxInt.
func TestAddMost(t *testing.T) {
	const most = api.MaxInt
	for _, c := range [][3]int{
		{most, 0, most}, {most, 1, most}, {most, most, most}, {most - 1, 0, most - 1}, {most - 1, 1, most}, {most - 1, 2, most}, {most / 2, most / 2, most}, {most / 2, most/2 - 1, most - 1}, {most - 5, 3, most - 2},
	} {
		wantAdd(t, []int{c[0]}, []int{c[1]}, []int{c[2]}, api.OK)
		wantAdd(t, []int{1, c[0], 2}, []int{5, c[1], 0}, []int{6, c[2], 2}, api.OK)
	}
}

// 8.3: rows that are not of one length, and numbers that may not be, in either; nothing beside the error.
func TestAddWrong(t *testing.T) {
	wantAdd(t, nil, []int{0}, nil, api.ErrArg)
	wantAdd(t, []int{1, 2}, []int{1}, nil, api.ErrArg)
	wantAdd(t, make([]int, 258), make([]int, 257), nil, api.ErrArg)
	for _, bad := range []int{-1, -2, least, api.MaxInt + 1, api.MaxInt + 2, greatest} {
		for _, l := range [][]int{{bad}, {bad, 0}, {0, bad}, {0, bad, 0}, {bad, bad}} {
			wantAdd(t, l, make([]int, len(l)), nil, api.ErrArg)
			wantAdd(t, l, slices.Repeat([]int{7}, len(l)), nil, api.ErrArg)
			wantAdd(t, l, l, nil, api.ErrArg)
			wantAdd(t, l, nil, nil, api.ErrArg)
		}
	}
	wantAdd(t, []int{-1}, []int{1}, nil, api.ErrArg)
	wantAdd(t, []int{greatest}, []int{greatest}, nil, api.ErrArg)
}

// 8.3: all numbers together, those below 0 left out, at most MaxInt.
func TestTotal(t *testing.T) {
	const most = api.MaxInt
	for _, c := range []struct {
		counts []int
		want   int
	}{
		{nil, 0}, {[]int{}, 0}, {[]int{0}, 0}, {[]int{7}, 7}, {[]int{1, 2, 3}, 6}, {[]int{-1}, 0}, {[]int{least}, 0}, {[]int{5, -5, 3}, 8}, {[]int{-9, 4}, 4}, {[]int{least, 1, least}, 1},
		{[]int{most}, most}, {[]int{most - 1, 1}, most}, {[]int{most - 1}, most - 1}, {[]int{most - 2, 1, -1}, most - 1}, {[]int{most, 1}, most}, {[]int{1, most}, most}, {[]int{most, -1}, most},
		{[]int{most + 1}, most}, {[]int{greatest}, most}, {[]int{greatest, greatest, 1}, most}, {[]int{greatest, greatest, 2}, most}, {[]int{greatest, least}, most}, {[]int{1 << 62, 1 << 62, -9}, most}, {[]int{1 << 62, 1 << 62, 1 << 62, 1 << 62, 3}, most},
		{slices.Repeat([]int{most / 1024}, 1024), most}, {slices.Repeat([]int{most / 1024}, 1023), most / 1024 * 1023}, {slices.Repeat([]int{-1}, 1000), 0}, {slices.Repeat([]int{most}, 100000), most},
	} {
		before := slices.Clone(c.counts)
		if n := freq.Total(c.counts); n != c.want || !slices.Equal(c.counts, before) {
			t.Errorf("Total(%v): %d, not %d", short(before), n, c.want)
		}
	}
}

// 8.4: counts of a row are those of its groups, added; their total is how many symbols there are.
func TestCountsOfGroups(t *testing.T) {
	random := rand.New(rand.NewSource(2))
	for range 300 {
		size := 3 + random.Intn(256)
		l := someSymbols(random, random.Intn(500), size)
		all := make([]int, size)
		for i := range freq.Groups(len(l)) {
			g, e := freq.Group(l, i)
			if e != api.OK {
				t.Fatalf("Group(.., %d) of %d: %v", i, len(l), e)
			}
			counts, e := freq.Counts(g, size)
			if e != api.OK || freq.Total(counts) != len(g) {
				t.Fatalf("Counts(%v, %d): %v, %v", g, size, counts, e)
			}
			if all, e = freq.Add(all, counts); e != api.OK {
				t.Fatalf("Add: %v", e)
			}
		}
		wantCounts(t, l, size, all, api.OK)
		if n := freq.Total(all); n != len(l) {
			t.Fatalf("Total: %d, not %d", n, len(l))
		}
	}
}

// R3: answers share no memory, with one another or with what was handed in.
func TestApart(t *testing.T) {
	l, counts := slices.Repeat([]int{0, 2}, 60), []int{1, 2, 3}
	for _, f := range []func() []int{
		func() []int { c, _ := freq.Counts(l, 3); return c },
		func() []int { c, _ := freq.Add(counts, counts); return c },
		func() []int { g, _ := freq.Group(l, 0); return g },
		func() []int { g, _ := freq.Group(l, 1); return g },
		func() []int { g, _ := freq.Group(l, 2); return g },
	} {
		first, second := f(), f()
		before := slices.Clone(second)
		for i := range first {
			first[i] = 77
		}
		_ = append(first, 77, 77)
		if len(first) == 0 || !slices.Equal(second, before) || !slices.Equal(f(), before) {
			t.Errorf("%v became %v", before, second)
		}
	}
	if !slices.Equal(l, slices.Repeat([]int{0, 2}, 60)) || !slices.Equal(counts, []int{1, 2, 3}) {
		t.Errorf("what was handed in became %v, %v", l, counts)
	}
}
