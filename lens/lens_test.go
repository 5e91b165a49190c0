package lens_test

import (
	"math/rand"
	"slices"
	"testing"

	"baler/api"
	"baler/lens"
)

// plainOf are lengths as the chapter tells them, and how often the weights were halved.
func plainOf(counts []int) ([]int, int) {
	weights := slices.Clone(counts)
	for i, n := range weights {
		if n == 0 {
			weights[i] = 1
		}
	}
	for times := 0; ; times++ {
		depths := plainDepths(weights)
		if slices.Max(depths) <= 20 {
			return depths, times
		}
		for i, n := range weights {
			weights[i] = n>>1 + 1
		}
	}
}

// someCounts are counts, some of them 0.
func someCounts(random *rand.Rand, n int) []int {
	l := someWeights(random, n)
	for i := range l {
		if random.Intn(3) == 0 {
			l[i] = 0
		}
	}
	return l
}

// wantOf fails unless Of tells this, and leaves its counts as they are.
func wantOf(t *testing.T, counts, want []int, err api.Errno) {
	t.Helper()
	before := slices.Clone(counts)
	if l, e := lens.Of(counts); !slices.Equal(l, want) || e != err {
		t.Fatalf("Of(%v): %v, %v, not %v, %v", short(before), short(l), e, short(want), err)
	}
	if !slices.Equal(counts, before) {
		t.Fatalf("Of changed %v to %v", short(before), short(counts))
	}
}

// wantShare fails unless Share tells this, and leaves its lengths as they are.
func wantShare(t *testing.T, lengths []int, want int, err api.Errno) {
	t.Helper()
	before := slices.Clone(lengths)
	if n, e := lens.Share(lengths); n != want || e != err {
		t.Fatalf("Share(%v): %d, %v, not %d, %v", short(before), n, e, want, err)
	}
	if !slices.Equal(lengths, before) {
		t.Fatalf("Share changed %v to %v", short(before), short(lengths))
	}
}

// wantLongest fails unless Longest tells this, and leaves its lengths as they are.
func wantLongest(t *testing.T, lengths []int, want int) {
	t.Helper()
	before := slices.Clone(lengths)
	if n := lens.Longest(lengths); n != want || !slices.Equal(lengths, before) {
		t.Fatalf("Longest(%v): %d, not %d", short(before), n, want)
	}
}

// 9.2: the examples of the chapter, and counts of 0, which weigh 1.
func TestOf(t *testing.T) {
	const most = api.MaxInt
	for _, c := range [][2][]int{
		{{5, 1, 1}, {1, 2, 2}}, {{1, 1, 1, 1}, {2, 2, 2, 2}}, {{0, 0, 0}, {2, 2, 1}}, {{0, 0, 9}, {2, 2, 1}}, {{9, 0, 0}, {1, 2, 2}}, {{0, 1, 0}, {2, 2, 1}}, {{0, 0, 0, 9}, {3, 3, 2, 1}},
		{{0, 0, 0, 0}, {2, 2, 2, 2}}, {{0, 0, 1, 1}, {2, 2, 2, 2}}, {{0, 0, 2, 2}, {2, 2, 2, 2}}, {{0, 2, 0, 3}, {3, 2, 3, 1}}, {{most, most, most}, {2, 2, 1}}, {{most, 0, most}, {2, 2, 1}}, {{0, most, most}, {2, 2, 1}},
	} {
		wantOf(t, c[0], c[1], api.OK)
	}
}

// 9.2: as many counts as may be.
func TestOfMany(t *testing.T) {
	random := rand.New(rand.NewSource(5))
	for n := 3; n <= 258; n++ {
		nothing := make([]int, n)
		want, _ := plainOf(nothing)
		wantOf(t, nothing, want, api.OK)
		for range 4 {
			counts := someCounts(random, n)
			want, _ := plainOf(counts)
			wantOf(t, counts, want, api.OK)
		}
	}
}

// 9.2: a depth of 20 stays, one of 21 doesn't: weights are halved, and tried again, as often as it takes.
func TestOfDeep(t *testing.T) {
	most := 0
	for n := 3; n <= 59; n++ {
		counts := falling(n)
		want, times := plainOf(counts)
		if (times > 0) != (n > 21) {
			t.Fatalf("%d counts are halved %d times", n, times)
		}
		most = max(most, times)
		wantOf(t, counts, want, api.OK)
		slices.Reverse(counts)
		want, _ = plainOf(counts)
		wantOf(t, counts, want, api.OK)
	}
	if most < 2 {
		t.Errorf("no counts are halved more than %d times", most)
	}
	var powers []int
	for i := range 41 {
		powers = append(powers, 1<<i)
		if len(powers) >= 3 {
			want, _ := plainOf(powers)
			wantOf(t, powers, want, api.OK)
		}
	}
	random := rand.New(rand.NewSource(6))
	for range 300 {
		counts := append(slices.Clone(powers), someCounts(random, random.Intn(218))...)
		random.Shuffle(len(counts), func(i, j int) { counts[i], counts[j] = counts[j], counts[i] })
		want, _ := plainOf(counts)
		wantOf(t, counts, want, api.OK)
	}
}

// 9.2: too few counts, or too many.
func TestOfNumber(t *testing.T) {
	for _, n := range []int{0, 1, 2, 259, 260, 1000, 100000} {
		wantOf(t, make([]int, n), nil, api.ErrArg)
		wantOf(t, slices.Repeat([]int{5}, n), nil, api.ErrArg)
	}
	wantOf(t, nil, nil, api.ErrArg)
}

// 9.2: counts that may not be, first, last or between.
func TestOfWrong(t *testing.T) {
	for _, bad := range []int{-1, -2, least, api.MaxInt + 1, api.MaxInt + 2, greatest} {
		for _, l := range [][]int{{bad, 1, 1}, {1, bad, 1}, {1, 1, bad}, {bad, bad, bad}, {0, bad}} {
			wantOf(t, l, nil, api.ErrArg)
		}
		l := make([]int, 258)
		for _, i := range []int{0, 100, 257} {
			l[i] = bad
			wantOf(t, l, nil, api.ErrArg)
			l[i] = 0
		}
	}
}

// 9.2: the share of each length, and of several together.
func TestShare(t *testing.T) {
	wantShare(t, nil, 0, api.OK)
	wantShare(t, []int{}, 0, api.OK)
	all := 0
	var l []int
	for n, want := 0, 1<<20; n <= 20; n, want = n+1, want/2 {
		wantShare(t, []int{n}, want, api.OK)
		wantShare(t, slices.Repeat([]int{n}, 258), 258*want, api.OK)
		l, all = append(l, n), all+want
		wantShare(t, l, all, api.OK)
	}
	wantShare(t, []int{20, 0, 19}, 1<<20+3, api.OK)
	wantShare(t, []int{1, 2, 2}, 1<<20, api.OK)
	wantShare(t, []int{1, 1, 1}, 3<<19, api.OK)
}

// 9.2: lengths that may not be, and too many of them.
func TestShareWrong(t *testing.T) {
	for _, bad := range []int{-1, -2, least, 21, 22, 64, 84, 1 << 32, greatest} {
		for _, l := range [][]int{{bad}, {bad, 1}, {1, bad}, {1, bad, 1}, {bad, bad}} {
			wantShare(t, l, 0, api.ErrArg)
		}
		wantShare(t, append(slices.Repeat([]int{9}, 257), bad), 0, api.ErrArg)
	}
	for _, n := range []int{259, 260, 1000, 100000} {
		for _, length := range []int{0, 1, 20} {
			wantShare(t, slices.Repeat([]int{length}, n), 0, api.ErrArg)
		}
	}
}

// 9.2: the greatest length of any number of them, those that may not be too.
func TestLongest(t *testing.T) {
	for _, c := range []struct {
		lengths []int
		want    int
	}{
		{nil, 0}, {[]int{}, 0}, {[]int{0}, 0}, {[]int{-1}, 0}, {[]int{least, -1, -20}, 0}, {[]int{-3, 0}, 0}, {[]int{4}, 4}, {[]int{4, 9, 2}, 9}, {[]int{9, 4}, 9}, {[]int{4, 9}, 9}, {[]int{-5, 1}, 1}, {[]int{1, -5}, 1},
		{[]int{20, 21}, 21}, {[]int{least, greatest, 3}, greatest}, {append(make([]int, 1000), 6), 6}, {append([]int{7}, make([]int, 1000)...), 7},
	} {
		wantLongest(t, c.lengths, c.want)
	}
}

// 9.3: lengths are from 1 to 20, and take the whole share.
func TestWhole(t *testing.T) {
	random := rand.New(rand.NewSource(7))
	for range 2000 {
		counts := someCounts(random, 3+random.Intn(256))
		l, e := lens.Of(counts)
		if e != api.OK || len(l) != len(counts) || slices.Min(l) < 1 || slices.Max(l) > 20 || share(l) != 1<<20 {
			t.Fatalf("Of(%v): %v, %v", short(counts), short(l), e)
		}
		wantShare(t, l, 1<<20, api.OK)
		wantLongest(t, l, slices.Max(l))
	}
}

// R3: answers share no memory, with one another or with what was handed in.
func TestApart(t *testing.T) {
	counts := []int{9, 5, 3, 1, 1}
	for _, f := range []func() []int{
		func() []int { l, _ := lens.Depths(counts); return l },
		func() []int { l, _ := lens.Of(counts); return l },
		func() []int { return lens.Halved(counts) },
	} {
		first, second := f(), f()
		before := slices.Clone(second)
		for i := range first {
			first[i] = 77
		}
		_ = append(first, 77, 77)
		if len(first) == 0 || !slices.Equal(second, before) || !slices.Equal(f(), before) {
			t.Errorf("%v became %v", before, second)
		}
	}
	if !slices.Equal(counts, []int{9, 5, 3, 1, 1}) {
		t.Errorf("what was handed in became %v", counts)
	}
}
