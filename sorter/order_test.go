package sorter_test

import (
	"math/rand"
	"slices"
	"sort"
	"strings"
	"testing"

	"baler/api"
	"baler/rotate"
	"baler/sorter"
)

// byRotations are a text's sorted places, rotation by rotation.
func byRotations(s string) []int {
	l := make([]int, len(s))
	for i := range l {
		l[i] = i
	}
	sort.SliceStable(l, func(a, b int) bool {
		return s[l[a]:]+s[:l[a]] < s[l[b]:]+s[:l[b]]
	})
	return l
}

// wantOf fails unless these are a text's places, and it takes no more steps than there may be.
func wantOf(t *testing.T, s string, want []int) {
	t.Helper()
	l, e := sorter.Of(s)
	if !slices.Equal(l, want) || e != api.OK {
		t.Fatalf("Of(%q): %v, %v, not %v", short(s), l[:min(len(l), 40)], e, want[:min(len(want), 40)])
	}
	x := newSorter(t, s)
	if steps := x.Step(greatest); steps > sorter.Most(len(s)) {
		t.Fatalf("%q: %d steps, which are more than %d", short(s), steps, sorter.Most(len(s)))
	}
	wantState(t, x, len(s), x.Steps(), want)
}

// 16.2 and 16.4: the document's example, and others by hand.
func TestOf(t *testing.T) {
	for _, c := range []struct {
		s    string
		want []int
	}{
		{"", nil}, {"a", []int{0}}, {"ab", []int{0, 1}}, {"ba", []int{1, 0}}, {"aa", []int{0, 1}}, {"aaa", []int{0, 1, 2}}, {"banana", []int{5, 3, 1, 0, 4, 2}},
		{"abab", []int{0, 2, 1, 3}}, {"baba", []int{1, 3, 0, 2}}, {"aabaa", []int{3, 4, 0, 1, 2}}, {"\x80\x7f\xff\x00", []int{3, 1, 0, 2}},
	} {
		wantOf(t, c.s, c.want)
	}
}

// 16.2, 16.4 and 16.6: all short texts.
func TestOfShort(t *testing.T) {
	check := func(s string) { wantOf(t, s, byRotations(s)) }
	for n := range 13 {
		eachText(n, "ab", check)
	}
	for n := range 8 {
		eachText(n, "\x00a\xff", check)
	}
}

// 16.2, 16.4 and 16.6: longer texts, also such as have a period.
func TestOfMany(t *testing.T) {
	random := rand.New(rand.NewSource(3))
	for range 400 {
		s := someText(random, 1+random.Intn(300))
		wantOf(t, s, byRotations(s))
		s = strings.Repeat(s, 1+random.Intn(4))
		wantOf(t, s, byRotations(s))
	}
	var all []byte
	for b := range 256 {
		all = append(all, byte(255-b))
	}
	for range 4 {
		wantOf(t, string(all), byRotations(string(all)))
		all = append(all, all...)
	}
}

// 16.6: rotations that are the same take as many passes as may be; b, which is told in Most, is a round one more or less at powers of 2.
func TestMostSteps(t *testing.T) {
	for n := 2; n <= 1100; n++ {
		s := strings.Repeat("a", n)
		_, total, passes := plain(s)
		b := 0
		for 1<<b < n {
			b++
		}
		if passes != b+2 {
			t.Fatalf("%d like bytes: %d passes", n, passes)
		}
		x := newSorter(t, s)
		wantStep(t, x, sorter.Most(n), total)
		if !x.Done() {
			t.Fatalf("%d like bytes are not sorted by %d steps", n, sorter.Most(n))
		}
	}
}

// 16.3: Most by hand, at powers of 2, where it is cut, and of what is no length.
func TestMost(t *testing.T) {
	for _, c := range [][2]int{
		{0, 0}, {1, 0}, {-1, 0}, {-2, 0}, {least, 0}, {2, 2 * 7 * 3}, {3, 3 * 10 * 4}, {4, 4 * 10 * 4}, {5, 5 * 13 * 5}, {8, 8 * 13 * 5}, {9, 9 * 16 * 6},
		{1024, 1024 * 34 * 12}, {1025, 1025 * 37 * 13}, {81, 81 * 25 * 9}, {900000, 900000 * 64 * 22}, {1 << 20, 1 << 20 * 64 * 22}, {1<<20 + 1, (1<<20 + 1) * 67 * 23},
		{1 << 28, 1 << 28 * 88 * 30}, {1<<28 + 1, (1<<28 + 1) * 91 * 31},
		{368181561, 368181561 * 91 * 31}, {389759527, 389759527 * 91 * 31}, {389759528, 1 << 40}, {1 << 29, 1 << 40}, {1 << 32, 1 << 40}, {1<<32 + 2, 1 << 40}, {1<<40 - 1, 1 << 40}, {1 << 40, 1 << 40},
		{1<<40 + 1, 1 << 40}, {1 << 41, 1 << 40}, {1 << 50, 1 << 40}, {1 << 62, 1 << 40}, {1<<62 + 1, 1 << 40}, {greatest, 1 << 40}, {greatest - 1, 1 << 40},
	} {
		if n := sorter.Most(c[0]); n != c[1] {
			t.Errorf("Most(%d): %d, not %d", c[0], n, c[1])
		}
	}
}

// 16.4 and 16.6: texts of as many bytes as may be.
func TestLongest(t *testing.T) {
	random := rand.New(rand.NewSource(4))
	const n = 900000
	for _, s := range []string{strings.Repeat("hello ", n/6), someText(random, n)} {
		x := newSorter(t, s)
		x.Step(sorter.Most(n))
		if !rotate.Sorted(s, x.Order()) {
			t.Errorf("%q: %d places, not sorted by %d steps", short(s), len(x.Order()), x.Steps())
		}
	}
}
