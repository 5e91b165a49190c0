package freq_test

import (
	"math/rand"
	"slices"
	"testing"

	"baler/api"
	"baler/freq"
)

// rising are numbers from 0 on.
func rising(n int) []int {
	l := make([]int, n)
	for i := range l {
		l[i] = i
	}
	return l
}

// wantGroup fails unless Group tells this, and leaves its symbols as they are.
func wantGroup(t *testing.T, l []int, i int, want []int, err api.Errno) {
	t.Helper()
	before := slices.Clone(l)
	if g, e := freq.Group(l, i); !slices.Equal(g, want) || e != err {
		t.Fatalf("Group(.., %d) of %d: %v, %v, not %v, %v", i, len(l), g, e, want, err)
	}
	if !slices.Equal(l, before) {
		t.Fatalf("Group changed %v to %v", short(before), short(l))
	}
}

// wantCost fails unless Cost tells this, and leaves what it is given as it is.
func wantCost(t *testing.T, l, lens []int, want int, err api.Errno) {
	t.Helper()
	before, lensBefore := slices.Clone(l), slices.Clone(lens)
	if n, e := freq.Cost(l, lens); n != want || e != err {
		t.Fatalf("Cost(%v, %v): %d, %v, not %d, %v", short(l), short(lens), n, e, want, err)
	}
	if !slices.Equal(l, before) || !slices.Equal(lens, lensBefore) {
		t.Fatalf("Cost changed %v, %v to %v, %v", short(before), short(lensBefore), short(l), short(lens))
	}
}

// 8.1: the example of the chapter, all numbers counted up, and very great ones.
func TestGroups(t *testing.T) {
	if n := freq.Groups(51); n != 2 {
		t.Errorf("Groups(51): %d", n)
	}
	want := 0
	for n := range 5000 {
		if n%50 == 1 {
			want++
		}
		if g := freq.Groups(n); g != want {
			t.Fatalf("Groups(%d): %d, not %d", n, g, want)
		}
	}
	for n, want := range map[int]int{
		-1: 0, -49: 0, -50: 0, -51: 0, -1000: 0, least: 0, least + 1: 0, 900001: 18001, 1638350: 32767, 1638351: 32768,
		api.MaxInt: 21990232556, greatest: 184467440737095517, greatest - 7: 184467440737095516, greatest - 6: 184467440737095517,
	} {
		if g := freq.Groups(n); g != want {
			t.Errorf("Groups(%d): %d, not %d", n, g, want)
		}
	}
}

// 8.2: all groups of rows of each length, which are the row, one behind the other; beyond them there is none.
func TestGroup(t *testing.T) {
	for n := range 320 {
		l := rising(n)
		groups := (n + 49) / 50
		for i := range groups {
			want := rising(n)[50*i:]
			if i < groups-1 {
				want = want[:50]
			}
			wantGroup(t, l, i, want, api.OK)
		}
		for _, i := range []int{-1, -2, -groups, groups, groups + 1, 50, 1 << 32, greatest, greatest / 50, greatest/50 + 1, 1 << 58, 1 << 62, least, least / 50} {
			if i < 0 || i >= groups {
				wantGroup(t, l, i, nil, api.ErrArg)
			}
		}
	}
	wantGroup(t, nil, 0, nil, api.ErrArg)
}

// 8.2: what is in a group may be any number.
func TestGroupOfAny(t *testing.T) {
	l := slices.Repeat([]int{least, -1, 300, greatest}, 20)
	wantGroup(t, l, 0, l[:50], api.OK)
	wantGroup(t, l, 1, l[50:], api.OK)
}

// 8.2: a group is new memory, also where it is the whole row.
func TestGroupApart(t *testing.T) {
	for _, n := range []int{1, 20, 50, 51, 100} {
		l := rising(n)
		g, _ := freq.Group(l, 0)
		for i := range g {
			g[i] = -5
		}
		_ = append(g, -6)
		if !slices.Equal(l, rising(n)) {
			t.Errorf("of %d symbols: the row became %v", n, l)
		}
		g, _ = freq.Group(l, 0)
		clear(l)
		if !slices.Equal(g, rising(min(n, 50))) {
			t.Errorf("of %d symbols: the group became %v", n, g)
		}
	}
}

// 8.2: what symbols cost, by hand; lengths of symbols that are not there cost nothing.
func TestCost(t *testing.T) {
	for _, c := range []struct {
		l, lens []int
		want    int
	}{
		{nil, nil, 0}, {nil, []int{3}, 0}, {[]int{}, []int{}, 0}, {[]int{0}, []int{0}, 0}, {[]int{0}, []int{7}, 7}, {[]int{0, 0, 0}, []int{7, 9}, 21},
		{[]int{0, 1, 1, 2}, []int{3, 2, 5}, 12}, {[]int{2, 0}, []int{1, 100, 20}, 21}, {[]int{0, 1}, []int{0, 15}, 15}, {[]int{999}, rising(1000), 999},
	} {
		wantCost(t, c.l, c.lens, c.want, api.OK)
	}
	wantCost(t, slices.Repeat([]int{257}, 900001), slices.Repeat([]int{20}, 258), 18000020, api.OK)
}

// 8.2: they cost at most MaxInt.
func TestCostMost(t *testing.T) {
	const most = api.MaxInt
	wantCost(t, []int{0}, []int{most}, most, api.OK)
	wantCost(t, []int{0}, []int{most - 1}, most-1, api.OK)
	wantCost(t, []int{0, 0}, []int{most}, most, api.OK)
	wantCost(t, []int{0, 1}, []int{most - 1, 1}, most, api.OK)
	wantCost(t, []int{1, 0, 1}, []int{most - 3, 1}, most-1, api.OK)
	wantCost(t, []int{0, 1, 2}, []int{most - 1, 1, 1}, most, api.OK)
	wantCost(t, []int{0, 1}, []int{most, 0}, most, api.OK)
	wantCost(t, []int{1, 1}, []int{most, most / 2}, most, api.OK)
	wantCost(t, []int{1, 1}, []int{most, most/2 - 1}, most-2, api.OK)
	wantCost(t, make([]int, 1<<23), []int{most}, most, api.OK) // together these are 2^63
	wantCost(t, make([]int, 1<<24), []int{most, most}, most, api.OK)
}

// 8.2: what is no symbol of these lengths, first, last or between.
func TestCostNone(t *testing.T) {
	for _, lens := range [][]int{nil, {1}, {4, 4}, rising(258), make([]int, 300)} {
		for _, bad := range []int{-1, -2, least, len(lens), len(lens) + 1, 1 << 32, greatest} {
			for _, l := range [][]int{{bad}, {bad, 0}, {0, bad}, {0, bad, 0}} {
				wantCost(t, l, lens, 0, api.ErrArg)
			}
		}
	}
}

// 8.2: a length that may not be, whether its symbol is there or not.
func TestCostNoLength(t *testing.T) {
	for _, bad := range []int{-1, -2, least, api.MaxInt + 1, api.MaxInt + 2, greatest} {
		for _, lens := range [][]int{{bad}, {bad, 1}, {1, bad}, {1, bad, 1}, {bad, bad}} {
			for _, l := range [][]int{nil, {0}, {len(lens) - 1}, {0, 0, len(lens) - 1}, {7}} {
				wantCost(t, l, lens, 0, api.ErrArg)
			}
		}
	}
}

// 8.5: what a row costs is each symbol's length times its count, together; and that of its groups.
func TestCostByCounts(t *testing.T) {
	random := rand.New(rand.NewSource(3))
	for range 300 {
		size := 3 + random.Intn(256)
		l, lens := someSymbols(random, random.Intn(400), size), make([]int, size)
		for i := range lens {
			lens[i] = random.Intn(1 << random.Intn(30))
		}
		counts, e := freq.Counts(l, size)
		if e != api.OK {
			t.Fatalf("Counts: %v", e)
		}
		want, groups := 0, 0
		for symbol, n := range counts {
			want += n * lens[symbol]
		}
		for i := range freq.Groups(len(l)) {
			g, _ := freq.Group(l, i)
			n, _ := freq.Cost(g, lens)
			groups += n
		}
		wantCost(t, l, lens, want, api.OK)
		if groups != want {
			t.Fatalf("the groups cost %d, not %d", groups, want)
		}
	}
}
