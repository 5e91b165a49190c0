package bwt_test

import (
	"math/rand"
	"strings"
	"testing"

	"baler/api"
	"baler/bwt"
	"baler/sorter"
)

// newTurner is a text's turner; it fails, if there is none.
func newTurner(t *testing.T, s string) *bwt.Turner {
	t.Helper()
	x, e := bwt.New(s)
	if x == nil || e != api.OK {
		t.Fatalf("New(%q): %v, %v", short(s), x != nil, e)
	}
	return x
}

// sorting is how many steps a text's sorter goes.
func sorting(s string) int {
	x, _ := sorter.New(s)
	return x.Step(greatest)
}

// wantState fails unless a text's turner tells of itself what is so behind so many steps, of which so many sort.
func wantState(t *testing.T, x *bwt.Turner, s string, steps, sorting int) {
	t.Helper()
	taken := max(0, steps-sorting)
	done := taken == len(s)
	if x.Steps() != steps || x.Done() != done || x.Held() != 3*len(s)+taken {
		t.Fatalf("%q: %d steps, done %v, %d held, not %d steps, done %v, %d held", short(s), x.Steps(), x.Done(), x.Held(), steps, done, 3*len(s)+taken)
	}
	want, at := "", 0
	if done {
		want, at = plainLast(s, plainOrder(s))
	}
	for range 2 {
		if last, origin := x.Result(); last != want || origin != at {
			t.Fatalf("%q: %q, %d behind %d steps, not %q, %d", short(s), short(last), origin, steps, short(want), at)
		}
	}
}

// wantStep fails unless so many steps are gone of a budget.
func wantStep(t *testing.T, x *bwt.Turner, budget, want int) {
	t.Helper()
	if n := x.Step(budget); n != want {
		t.Fatalf("Step(%d): %d, not %d", budget, n, want)
	}
}

// wantCut fails unless a text's turner goes all steps, cut by budgets, and tells so at each cut.
func wantCut(t *testing.T, s string, budgets func() int) {
	t.Helper()
	sorts := sorting(s)
	x, gone, total := newTurner(t, s), 0, sorts+len(s)
	for gone < total {
		wantState(t, x, s, gone, sorts)
		budget := budgets()
		want := min(max(budget, 0), total-gone)
		wantStep(t, x, budget, want)
		gone += want
	}
	for _, budget := range []int{1, 2, greatest, 0, -1, least} {
		wantState(t, x, s, total, sorts)
		wantStep(t, x, budget, 0)
	}
	wantState(t, x, s, total, sorts)
}

// always is the same budget again and again.
func always(budget int) func() int { return func() int { return budget } }

// 17.2: steps by hand: those of the sorter, and one for each byte.
func TestSteps(t *testing.T) {
	for _, c := range []struct {
		s     string
		steps int
	}{{"a", 1}, {"\x00", 1}, {"ba", 8 + 2}, {"aa", 3*8 + 2}, {"abc", 15 + 3}, {"aab", 2*15 + 3}, {"aaab", 3*23 + 4}, {"banana", 3*40 + 6}} {
		x := newTurner(t, c.s)
		wantStep(t, x, greatest, c.steps)
		if x.Steps() != c.steps || !x.Done() {
			t.Errorf("%q: %d steps, done %v, not %d", c.s, x.Steps(), x.Done(), c.steps)
		}
	}
}

// 17.2: each byte is one step, behind all of the sorter's; the result is there with the last one alone.
func TestBytes(t *testing.T) {
	x := newTurner(t, "banana")
	wantStep(t, x, 120, 120)
	for taken := range 6 {
		if last, origin := x.Result(); last != "" || origin != 0 || x.Done() || x.Held() != 18+taken || x.Steps() != 120+taken {
			t.Fatalf("behind %d bytes: %q, %d, done %v, %d held, %d steps", taken, last, origin, x.Done(), x.Held(), x.Steps())
		}
		wantStep(t, x, 1, 1)
	}
	if last, origin := x.Result(); last != "nnbaaa" || origin != 3 || !x.Done() || x.Held() != 24 || x.Steps() != 126 {
		t.Fatalf("at the end: %q, %d, done %v, %d held, %d steps", last, origin, x.Done(), x.Held(), x.Steps())
	}
}

// 17.2 and 17.4: one cut, wherever it may be.
func TestCutEverywhere(t *testing.T) {
	for _, s := range []string{"a", "ba", "aa", "aab", "banana", "abababab", "mississippi"} {
		sorts := sorting(s)
		total := sorts + len(s)
		for cut := range total + 1 {
			x := newTurner(t, s)
			wantStep(t, x, cut, cut)
			wantState(t, x, s, cut, sorts)
			wantStep(t, x, greatest, total-cut)
			wantState(t, x, s, total, sorts)
		}
	}
}

// 17.2 and 17.4: steps of all short texts, one by one and some by some.
func TestCutShort(t *testing.T) {
	check := func(s string) {
		for _, budget := range []int{1, 2, 3, 5, 7, 1000, greatest} {
			wantCut(t, s, always(budget))
		}
	}
	for n := 1; n < 8; n++ {
		eachText(n, "ab", check)
	}
	for n := 1; n < 5; n++ {
		eachText(n, "\x00\x7f\xff", check)
	}
}

// 17.2 and 17.4: longer texts, whose steps are cut at random; budgets below 1 go none.
func TestCutMany(t *testing.T) {
	random := rand.New(rand.NewSource(5))
	for range 200 {
		s := someText(random, 1+random.Intn(1<<random.Intn(9)))
		often := 1 + random.Intn(4*len(s))
		wantCut(t, s, func() int { return random.Intn(often+2) - 1 })
		wantCut(t, s, always(greatest))
		wantCut(t, s, always(bwt.Most(len(s))))
	}
	wantCut(t, strings.Repeat("a", 200), always(1))
}

// 17.2: a budget below 1 goes no step, whatever is due.
func TestNoBudget(t *testing.T) {
	for _, s := range []string{"a", "banana"} {
		sorts := sorting(s)
		x := newTurner(t, s)
		for gone := range sorts + len(s) {
			for _, budget := range []int{0, -1, -5, least} {
				wantStep(t, x, budget, 0)
				wantState(t, x, s, gone, sorts)
			}
			wantStep(t, x, 1, 1)
		}
	}
}

// 17.2: Most by hand, where it is cut, and of what is no length.
func TestMost(t *testing.T) {
	for _, c := range [][2]int{
		{0, 0}, {-1, 0}, {-2, 0}, {least, 0}, {1, 1}, {2, 2*7*3 + 2}, {3, 3*10*4 + 3}, {4, 4*10*4 + 4}, {5, 5*13*5 + 5}, {900000, 900000*64*22 + 900000},
		{1 << 28, 1<<28*88*30 + 1<<28}, {389621412, 389621412 * 2822}, {389621413, 389621413 * 2822}, {389621414, 1 << 40}, {389759527, 1 << 40}, {389759528, 1 << 40}, {1 << 32, 1 << 40},
		{1<<40 - 1, 1 << 40}, {1 << 40, 1 << 40}, {1<<40 + 1, 1 << 40}, {1 << 62, 1 << 40}, {greatest - 1<<40, 1 << 40}, {greatest, 1 << 40},
	} {
		if n := bwt.Most(c[0]); n != c[1] {
			t.Errorf("Most(%d): %d, not %d", c[0], n, c[1])
		}
	}
}

// 17.2: there are at most Most steps, and of like bytes these are enough.
func TestMostSteps(t *testing.T) {
	for n := 1; n <= 520; n++ {
		s := strings.Repeat("a", n)
		x := newTurner(t, s)
		wantStep(t, x, bwt.Most(n), sorting(s)+n)
		if !x.Done() {
			t.Fatalf("%d like bytes are not turned by %d steps", n, bwt.Most(n))
		}
	}
}

// 17.2: a text of as many bytes as may be, byte by byte.
func TestLongest(t *testing.T) {
	const n = 900000
	s := strings.Repeat("a", n-1) + "b"
	sorts := sorting(s)
	x := newTurner(t, s)
	wantStep(t, x, sorts, sorts)
	for range n {
		wantStep(t, x, 1, 1)
	}
	last, origin := x.Result()
	if last != "b"+s[:n-1] || origin != 0 || x.Held() != 4*n || x.Steps() != sorts+n {
		t.Errorf("%q, %d, %d held, %d steps", short(last), origin, x.Held(), x.Steps())
	}
}

// 17.4: turners side by side do not change one another.
func TestSideBySide(t *testing.T) {
	random := rand.New(rand.NewSource(6))
	var texts []string
	var all []*bwt.Turner
	for i := range 9 {
		texts = append(texts, someText(random, 1+i*20))
		all = append(all, newTurner(t, texts[i]))
	}
	for range 10000 {
		all[random.Intn(len(all))].Step(random.Intn(12))
	}
	for i, x := range all {
		x.Step(greatest)
		wantState(t, x, texts[i], sorting(texts[i])+len(texts[i]), sorting(texts[i]))
	}
}

// Of nil: 0, false, nothing; and so of a turner that New did not make.
func TestNil(t *testing.T) {
	for _, x := range []*bwt.Turner{nil, {}} {
		for _, budget := range []int{1, 100, greatest, 0, -1, least} {
			wantStep(t, x, budget, 0)
		}
		if last, origin := x.Result(); last != "" || origin != 0 || x.Done() || x.Steps() != 0 || x.Held() != 0 {
			t.Errorf("%q, %d, done %v, %d steps, %d held", last, origin, x.Done(), x.Steps(), x.Held())
		}
	}
}
