package rotate_test

import (
	"math/rand"
	"slices"
	"sort"
	"strings"
	"testing"

	"baler/rotate"
)

// plainPeriod is a text's period, as the chapter tells it.
func plainPeriod(s string) int {
	for p := 1; p <= len(s); p++ {
		same := len(s)%p == 0
		for i := range len(s) {
			same = same && s[i] == s[(i+p)%len(s)]
		}
		if same {
			return p
		}
	}
	return 0
}

// plainSorted are a text's sorted places.
func plainSorted(s string) []int {
	l, turned := make([]int, len(s)), make([]string, len(s))
	for i := range l {
		l[i], turned[i] = i, plainRotation(s, i)
	}
	sort.SliceStable(l, func(a, b int) bool { return turned[l[a]] < turned[l[b]] })
	return l
}

// wantSorted fails unless it is told so whether places are the sorted ones, and they are left as they are.
func wantSorted(t *testing.T, s string, l []int, want bool) {
	t.Helper()
	before := slices.Clone(l)
	if rotate.Sorted(s, l) != want {
		t.Fatalf("Sorted(%q, %v): not %v", short(s), l[:min(len(l), 40)], want)
	}
	if !slices.Equal(l, before) {
		t.Fatalf("Sorted changed places of %q", short(s))
	}
}

// wantFirsts fails unless a text's period and least place are told as they are.
func wantFirsts(t *testing.T, s string) {
	t.Helper()
	if p := rotate.Period(s); p != plainPeriod(s) {
		t.Fatalf("Period(%q): %d, not %d", short(s), p, plainPeriod(s))
	}
	want := -1
	if s != "" {
		want = plainSorted(s)[0]
	}
	if i := rotate.Least(s); i != want {
		t.Fatalf("Least(%q): %d, not %d", short(s), i, want)
	}
}

// eachList calls with all lists of n numbers from -1 to n.
func eachList(n, left int, each func([]int)) {
	if left == 0 {
		each(nil)
		return
	}
	eachList(n, left-1, func(l []int) {
		for v := -1; v <= n; v++ {
			each(append(slices.Clone(l), v))
		}
	})
}

// eachOrder calls with all orders of places.
func eachOrder(l []int, from int, each func([]int)) {
	if from == len(l) {
		each(l)
		return
	}
	for i := from; i < len(l); i++ {
		l[from], l[i] = l[i], l[from]
		eachOrder(l, from+1, each)
		l[from], l[i] = l[i], l[from]
	}
}

// 15.2: the document's examples, and others by hand.
func TestOrder(t *testing.T) {
	for _, c := range []struct {
		s             string
		period, least int
		sorted        []int
	}{
		{"", 0, -1, nil}, {"a", 1, 0, []int{0}}, {"aa", 1, 0, []int{0, 1}}, {"ab", 2, 0, []int{0, 1}}, {"ba", 2, 1, []int{1, 0}}, {"abab", 2, 0, []int{0, 2, 1, 3}}, {"baba", 2, 1, []int{1, 3, 0, 2}},
		{"banana", 6, 5, []int{5, 3, 1, 0, 4, 2}}, {"ababa", 5, 4, []int{4, 2, 0, 3, 1}}, {"abaaba", 3, 2, []int{2, 5, 0, 3, 1, 4}}, {"aaaa", 1, 0, []int{0, 1, 2, 3}},
		{"aabaa", 5, 3, []int{3, 4, 0, 1, 2}}, {"\x80\x7f\xff\x00", 4, 3, []int{3, 1, 0, 2}},
	} {
		if p, i := rotate.Period(c.s), rotate.Least(c.s); p != c.period || i != c.least {
			t.Errorf("%q: period %d, least %d", c.s, p, i)
		}
		wantSorted(t, c.s, c.sorted, true)
	}
}

// 15.2: period and least place of all short texts, and of longer ones.
func TestFirstsMany(t *testing.T) {
	eachShort(func(s string) { wantFirsts(t, s) })
	eachText(12, "ab", func(s string) { wantFirsts(t, s) })
	random := rand.New(rand.NewSource(3))
	for range 1500 {
		s := someText(random, 1+random.Intn(100))
		wantFirsts(t, s)
		wantFirsts(t, strings.Repeat(s, 1+random.Intn(4)))
	}
}

// 15.2: of all orders of a text's places just one is sorted.
func TestSortedOrders(t *testing.T) {
	check := func(s string) {
		want := plainSorted(s)
		eachOrder(slices.Clone(want), 0, func(l []int) { wantSorted(t, s, l, slices.Equal(l, want)) })
	}
	for n := range 8 {
		eachText(n, "ab", check)
	}
	for n := range 5 {
		eachText(n, "\x00\x7f\x80\xff", check)
	}
}

// 15.2: of all lists of numbers, among them what is no place, and places that stand there twice, one is sorted.
func TestSortedLists(t *testing.T) {
	for n := range 5 {
		eachText(n, "ab", func(s string) {
			want := plainSorted(s)
			eachList(n, n, func(l []int) { wantSorted(t, s, l, slices.Equal(l, want)) })
		})
	}
}

// 15.2: sorted places of longer texts, and what is off by a little.
func TestSortedMany(t *testing.T) {
	random := rand.New(rand.NewSource(4))
	for range 1000 {
		s := strings.Repeat(someText(random, 1+random.Intn(60)), 1+random.Intn(4))
		l := plainSorted(s)
		wantSorted(t, s, l, true)
		wantSorted(t, s, l[1:], false)
		wantSorted(t, s, append(slices.Clone(l), len(l)), false)
		wantSorted(t, s, append(slices.Clone(l), 0), false)
		wantSorted(t, s+"a", l, false)
		i, k := random.Intn(len(l)), random.Intn(len(l))
		for _, bad := range append(notPlaces(len(s)), l[(i+1)%len(l)]) {
			other := slices.Clone(l)
			other[i] = bad
			wantSorted(t, s, other, slices.Equal(l, other))
		}
		other := slices.Clone(l)
		other[i], other[k] = l[k], l[i]
		wantSorted(t, s, other, i == k)
	}
}

// 15.2: a list of another length is none, also of the empty text.
func TestSortedLengths(t *testing.T) {
	wantSorted(t, "", nil, true)
	wantSorted(t, "", []int{}, true)
	for _, l := range [][]int{{0}, {-1}, {1}, {0, 1}} {
		wantSorted(t, "", l, false)
	}
	wantSorted(t, "a", nil, false)
	wantSorted(t, "a", []int{0, 0}, false)
	wantSorted(t, "a", []int{0, 1}, false)
	wantSorted(t, "ab", []int{0}, false)
	wantSorted(t, "ab", []int{0, 1, 2}, false)
}

// 15.2: texts as long as a sorter takes them, whose rotations are alike for long.
func TestOrderLong(t *testing.T) {
	const n = 900000
	l := make([]int, n)
	for i := range l {
		l[i] = i
	}
	like := strings.Repeat("a", n)
	wantSorted(t, like, l, true)
	last := like[1:] + "b"
	wantSorted(t, last, l, true)
	l[n-1], l[n-2] = l[n-2], l[n-1]
	wantSorted(t, like, l, false)
	wantSorted(t, last, l, false)
	pairs := strings.Repeat("ba", n/2)
	for i := range l {
		l[i] = 2*i + 1
		if i >= n/2 {
			l[i] = 2*i - n
		}
	}
	wantSorted(t, pairs, l, true)
	l[0], l[1] = l[1], l[0]
	wantSorted(t, pairs, l, false)
	for _, c := range []struct {
		s             string
		period, least int
	}{{like, 1, 0}, {last, n, 0}, {pairs, 2, 1}, {"b" + like[1:], n, 1}, {like[2:] + "ba", n, n - 1}, {strings.Repeat(like[:n/4-1]+"b", 4), n / 4, 0}} {
		if p, i := rotate.Period(c.s), rotate.Least(c.s); p != c.period || i != c.least {
			t.Errorf("%q: period %d, least %d", short(c.s), p, i)
		}
	}
}
