package lens_test

import (
	"math/rand"
	"slices"
	"testing"

	"baler/api"
	"baler/lens"
)

// least and greatest are the ends of all numbers.
const (
	least    = -1 << 63
	greatest = 1<<63 - 1
)

// short are numbers to be shown.
func short(l []int) []int { return l[:min(len(l), 40)] }

// tree is one of the trees that wait: its weight, its number, and the symbols that it has.
type tree struct {
	weight, number int
	symbols        []int
}

// takeLeast takes the least tree out of those that wait, all of which are looked at.
func takeLeast(trees []tree) (tree, []tree) {
	at := 0
	for i, one := range trees {
		if one.weight < trees[at].weight || one.weight == trees[at].weight && one.number < trees[at].number {
			at = i
		}
	}
	taken := trees[at]
	trees[at] = trees[len(trees)-1]
	return taken, trees[:len(trees)-1]
}

// plainDepths are depths as the chapter tells them, each symbol's counted up as often as its tree is joined.
func plainDepths(weights []int) []int {
	var trees []tree
	for symbol, weight := range weights {
		trees = append(trees, tree{weight, symbol, []int{symbol}})
	}
	depths := make([]int, len(weights))
	for next := len(weights); len(trees) > 1; next++ {
		var a, b tree
		a, trees = takeLeast(trees)
		b, trees = takeLeast(trees)
		both := append(a.symbols, b.symbols...)
		for _, symbol := range both {
			depths[symbol]++
		}
		trees = append(trees, tree{a.weight + b.weight, next, both})
	}
	return depths
}

// weighed is what lengths cost by weights.
func weighed(weights, lengths []int) int {
	cost := 0
	for i, weight := range weights {
		cost += weight * lengths[i]
	}
	return cost
}

// share is the share of lengths: how many rows of 20 bits begin with one of such codes.
func share(lengths []int) int {
	share := 0
	for _, n := range lengths {
		rows := 1
		for range 20 - n {
			rows *= 2
		}
		share += rows
	}
	return share
}

// someWeights are weights of all sizes, many of them alike.
func someWeights(random *rand.Rand, n int) []int {
	l := make([]int, n)
	most := 1 << random.Intn(41)
	for i := range l {
		switch random.Intn(4) {
		case 0:
			l[i] = 1 + random.Intn(3)
		case 1:
			l[i] = 1 << random.Intn(41)
		default:
			l[i] = 1 + random.Intn(most)
		}
	}
	return l
}

// allFew calls with all rows of n numbers from 1 to most.
func allFew(n, most int, each func([]int)) {
	l := slices.Repeat([]int{1}, n)
	for more := true; more; {
		each(l)
		more = false
		for i := 0; i < n && !more; i++ {
			l[i]++
			if more = l[i] <= most; !more {
				l[i] = 1
			}
		}
	}
}

// falling are numbers each of which is as great as the two behind it: no trees are deeper.
func falling(n int) []int {
	l := make([]int, n)
	for i := n - 1; i >= 0; i-- {
		l[i] = 1
		if i < n-2 {
			l[i] = l[i+1] + l[i+2]
		}
	}
	return l
}

// wantDepths fails unless Depths tells this, and leaves its weights as they are.
func wantDepths(t *testing.T, weights, want []int, err api.Errno) {
	t.Helper()
	before := slices.Clone(weights)
	if l, e := lens.Depths(weights); !slices.Equal(l, want) || e != err {
		t.Fatalf("Depths(%v): %v, %v, not %v, %v", short(before), short(l), e, short(want), err)
	}
	if !slices.Equal(weights, before) {
		t.Fatalf("Depths changed %v to %v", short(before), short(weights))
	}
}

// wantHalved fails unless Halved tells this, and leaves its weights as they are.
func wantHalved(t *testing.T, weights, want []int) {
	t.Helper()
	before := slices.Clone(weights)
	if l := lens.Halved(weights); !slices.Equal(l, want) {
		t.Fatalf("Halved(%v): %v, not %v", short(before), short(l), short(want))
	}
	if !slices.Equal(weights, before) {
		t.Fatalf("Halved changed %v to %v", short(before), short(weights))
	}
}

// 9.1: depths by hand. Of trees alike the one of the less number is joined: a symbol ahead of a joined one.
func TestDepths(t *testing.T) {
	const most = api.MaxInt
	for _, c := range [][2][]int{
		{{3, 4}, {1, 1}}, {{1, 1}, {1, 1}}, {{most, 1}, {1, 1}}, {{most, most}, {1, 1}},
		{{5, 1, 1}, {1, 2, 2}}, {{1, 5, 1}, {2, 1, 2}}, {{1, 1, 5}, {2, 2, 1}}, {{1, 1, 1}, {2, 2, 1}}, {{2, 1, 1}, {1, 2, 2}}, {{1, 2, 1}, {2, 1, 2}},
		{{1, 1, 1, 1}, {2, 2, 2, 2}}, {{1, 1, 2, 2}, {2, 2, 2, 2}}, {{2, 2, 1, 1}, {2, 2, 2, 2}}, {{1, 2, 2, 1}, {2, 2, 2, 2}}, {{1, 1, 2, 3}, {3, 3, 2, 1}}, {{1, 1, 2, 4}, {3, 3, 2, 1}},
		{{1, 1, 1, 1, 1}, {3, 3, 2, 2, 2}}, {{3, 2, 1, 1, 1}, {2, 2, 3, 3, 2}}, {{8, 4, 2, 1, 1}, {1, 2, 3, 4, 4}}, {{1, 1, 1, 1, 2, 2}, {3, 3, 3, 3, 2, 2}},
		{{most, most, most}, {2, 2, 1}}, {{most, most - 1, most}, {2, 2, 1}}, {{most - 1, most, most}, {2, 2, 1}},
	} {
		wantDepths(t, c[0], c[1], api.OK)
	}
}

// 9.1: all rows of few weights, each tree's way gone as the chapter tells it.
func TestDepthsFew(t *testing.T) {
	for n := 2; n <= 6; n++ {
		allFew(n, 5, func(weights []int) { wantDepths(t, weights, plainDepths(weights), api.OK) })
	}
}

// 9.1: as many weights as may be, all alike, rising, or of any size.
func TestDepthsMany(t *testing.T) {
	random := rand.New(rand.NewSource(1))
	for n := 2; n <= 258; n++ {
		alike, rising := make([]int, n), make([]int, n)
		for i := range n {
			alike[i], rising[i] = api.MaxInt, i+1
		}
		wantDepths(t, alike, plainDepths(alike), api.OK)
		wantDepths(t, rising, plainDepths(rising), api.OK)
		for range 4 {
			weights := someWeights(random, n)
			wantDepths(t, weights, plainDepths(weights), api.OK)
		}
	}
}

// 9.1: depths may be beyond 20, as deep as weights can make them.
func TestDepthsDeep(t *testing.T) {
	for n := 2; n <= 62; n++ {
		weights := falling(n)
		want := make([]int, n)
		for i := range want {
			want[i] = min(i+1, n-1)
		}
		if weights[0] <= api.MaxInt {
			wantDepths(t, weights, want, api.OK)
		} else {
			wantDepths(t, weights, nil, api.ErrArg)
		}
	}
}

// 9.1: too few weights, or too many.
func TestDepthsNumber(t *testing.T) {
	for _, n := range []int{0, 1, 259, 260, 1000, 100000} {
		wantDepths(t, slices.Repeat([]int{1}, n), nil, api.ErrArg)
		wantDepths(t, make([]int, n), nil, api.ErrArg)
	}
	wantDepths(t, nil, nil, api.ErrArg)
}

// 9.1: weights that may not be, first, last or between.
func TestDepthsWrong(t *testing.T) {
	for _, bad := range []int{0, -1, -2, least, api.MaxInt + 1, api.MaxInt + 2, greatest} {
		for _, l := range [][]int{{bad, 1}, {1, bad}, {bad, bad}, {1, bad, 1}, {bad}} {
			wantDepths(t, l, nil, api.ErrArg)
		}
		l := slices.Repeat([]int{7}, 258)
		for _, i := range []int{0, 100, 257} {
			l[i] = bad
			wantDepths(t, l, nil, api.ErrArg)
			l[i] = 7
		}
	}
}

// 9.1: halves, rounded down, and 1; of what is below 0 it is 1; of any number of them.
func TestHalved(t *testing.T) {
	wantHalved(t, nil, nil)
	wantHalved(t, []int{}, nil)
	wantHalved(t, []int{0, 1, 2, 3, 4, 5, 9, 10}, []int{1, 1, 2, 2, 3, 3, 5, 6})
	wantHalved(t, []int{-1, -2, -3, -4, least, least + 1}, []int{1, 1, 1, 1, 1, 1})
	wantHalved(t, []int{api.MaxInt, api.MaxInt - 1, api.MaxInt + 1, greatest}, []int{1<<39 + 1, 1 << 39, 1<<39 + 1, 1 << 62})
	wantHalved(t, slices.Repeat([]int{6}, 1000), slices.Repeat([]int{4}, 1000))
	for n := range 10000 {
		wantHalved(t, []int{n, -n}, []int{(n-n%2)/2 + 1, 1})
	}
}

// 9.4: no lengths whose share is at most 2^20 cost less; all of few symbols.
func TestNoneIsCheaper(t *testing.T) {
	random := rand.New(rand.NewSource(2))
	for n := 2; n <= 5; n++ {
		for range 40 {
			weights := someWeights(random, n)
			depths, _ := lens.Depths(weights)
			cost := weighed(weights, depths)
			allFew(n, 5, func(lengths []int) {
				if share(lengths) <= 1<<20 && weighed(weights, lengths) < cost {
					t.Fatalf("Depths(%v): %v, but %v cost less", weights, depths, lengths)
				}
			})
		}
	}
}

// 9.4: nor do any of many symbols: those of other weights, and the same ones put in the best order.
func TestNoneIsCheaperMany(t *testing.T) {
	random := rand.New(rand.NewSource(3))
	for range 1000 {
		n := 3 + random.Intn(256)
		weights := someWeights(random, n)
		depths, e := lens.Depths(weights)
		if e != api.OK {
			t.Fatalf("Depths(%v): %v", short(weights), e)
		}
		others, e := lens.Of(someWeights(random, n))
		if e != api.OK || share(others) > 1<<20 {
			t.Fatalf("Of: %v, %v", short(others), e)
		}
		own, _ := lens.Of(weights)
		cost := weighed(weights, depths)
		if weighed(weights, others) < cost || weighed(weights, own) < cost {
			t.Fatalf("Depths(%v): %v cost more than others", short(weights), short(depths))
		}
		slices.Sort(weights)
		slices.Sort(others)
		slices.Reverse(others)
		if weighed(weights, others) < cost {
			t.Fatalf("Depths(%v) cost more than %v", short(weights), short(others))
		}
	}
}

// 9.5: of two symbols the one with the greater weight has no greater depth.
func TestGreaterWeights(t *testing.T) {
	random := rand.New(rand.NewSource(4))
	for range 300 {
		weights := someWeights(random, 2+random.Intn(257))
		depths, e := lens.Depths(weights)
		if e != api.OK {
			t.Fatalf("Depths(%v): %v", short(weights), e)
		}
		for i := range weights {
			for j := range weights {
				if weights[i] > weights[j] && depths[i] > depths[j] {
					t.Fatalf("%d and %d have depths %d and %d", weights[i], weights[j], depths[i], depths[j])
				}
			}
		}
	}
}
