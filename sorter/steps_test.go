package sorter_test

import (
	"math/rand"
	"slices"
	"strings"
	"testing"

	"baler/api"
	"baler/sorter"
)

// least and greatest are the ends of all numbers.
const (
	least    = -1 << 63
	greatest = 1<<63 - 1
)

// short is a text to be shown.
func short(s string) string { return s[:min(len(s), 40)] }

// model sorts as the chapter tells it, and counts steps.
type model struct {
	order []int
	steps int
}

// sort sorts a part by keys.
func (m *model) sort(lo, hi int, key func(int) [2]int) {
	m.steps++
	if hi-lo < 2 {
		return
	}
	mid := (lo + hi) / 2
	m.sort(lo, mid, key)
	m.sort(mid, hi, key)
	aside, rest := slices.Clone(m.order[lo:mid]), slices.Clone(m.order[mid:hi])
	m.steps += len(aside)
	for at := lo; at < hi; at++ {
		m.steps++
		if len(rest) == 0 || len(aside) > 0 && !isLess(key(rest[0]), key(aside[0])) {
			m.order[at], aside = aside[0], aside[1:]
		} else {
			m.order[at], rest = rest[0], rest[1:]
		}
	}
}

// isLess tells whether a key is less than another one.
func isLess(a, b [2]int) bool { return a[0] < b[0] || a[0] == b[0] && a[1] < b[1] }

// plain are a text's sorted places, how many steps that takes, and in how many passes.
func plain(s string) ([]int, int, int) {
	n, m := len(s), &model{}
	for i := range n {
		m.order = append(m.order, i)
	}
	key := func(i int) [2]int { return [2]int{int(s[i])} }
	for h, passes := 0, 0; ; h = max(1, 2*h) {
		if n < 2 {
			return m.order, 0, passes
		}
		m.sort(0, n, key)
		classes, class := make([]int, n), 0
		for at, i := range m.order {
			if at > 0 && key(i) != key(m.order[at-1]) {
				class++
			}
			classes[i] = class
		}
		m.steps += n
		passes++
		if class == n-1 || h >= n {
			return m.order, m.steps, passes
		}
		reach := max(1, 2*h)
		key = func(i int) [2]int { return [2]int{classes[i], classes[(i+reach)%n]} }
	}
}

// eachText calls with all texts of n bytes out of those of an alphabet.
func eachText(n int, alphabet string, each func(string)) {
	if n == 0 {
		each("")
		return
	}
	eachText(n-1, alphabet, func(s string) {
		for i := range len(alphabet) {
			each(s + alphabet[i:i+1])
		}
	})
}

// someText is a text of n bytes, of which many or few are unlike, and that may have a period.
func someText(random *rand.Rand, n int) string {
	unlike, s := 1+random.Intn(1<<random.Intn(9)), make([]byte, n)
	period := 1 + random.Intn(n)
	for i := range s {
		s[i] = byte(random.Intn(unlike) * 255 / unlike)
		if i >= period && random.Intn(n) > 0 {
			s[i] = s[i-period]
		}
	}
	return string(s)
}

// newSorter is a text's sorter; it fails, if there is none.
func newSorter(t *testing.T, s string) *sorter.Sorter {
	t.Helper()
	x, e := sorter.New(s)
	if x == nil || e != api.OK {
		t.Fatalf("New(%q): %v, %v", short(s), x != nil, e)
	}
	return x
}

// wantState fails unless a sorter of n bytes tells this of itself; it has an order just if that is done.
func wantState(t *testing.T, x *sorter.Sorter, n, steps int, order []int) {
	t.Helper()
	done := len(order) == n
	if x.Steps() != steps || x.Done() != done || x.Held() != 3*n || !slices.Equal(x.Order(), order) {
		t.Fatalf("%d bytes: %d steps, done %v, %d held, %d places, not %d steps, done %v", n, x.Steps(), x.Done(), x.Held(), len(x.Order()), steps, done)
	}
}

// wantStep fails unless so many steps are gone of a budget.
func wantStep(t *testing.T, x *sorter.Sorter, budget, want int) {
	t.Helper()
	if n := x.Step(budget); n != want {
		t.Fatalf("Step(%d): %d, not %d", budget, n, want)
	}
}

// wantCut fails unless a text's sorter goes all steps, cut by budgets, and tells so at each cut.
func wantCut(t *testing.T, s string, budgets func() int) {
	t.Helper()
	order, total, _ := plain(s)
	x, gone := newSorter(t, s), 0
	for gone < total {
		wantState(t, x, len(s), gone, nil)
		budget := budgets()
		want := min(max(budget, 0), total-gone)
		wantStep(t, x, budget, want)
		gone += want
	}
	wantState(t, x, len(s), total, order)
	for _, budget := range []int{1, 2, greatest, 0, -1, least} {
		wantStep(t, x, budget, 0)
	}
	wantState(t, x, len(s), total, order)
}

// always is the same budget again and again.
func always(budget int) func() int { return func() int { return budget } }

// 16.1: steps by hand. A pass of two places has three parts, one place laid aside, two put, and two classes; one of three has five parts, 1 and 1 laid aside, 2 and 3 put, and three classes.
func TestSteps(t *testing.T) {
	for _, c := range []struct {
		s     string
		steps int
	}{
		{"", 0}, {"a", 0}, {"\x00", 0}, {"ba", 8}, {"ab", 8}, {"\xff\x00", 8}, {"aa", 3 * 8}, {"abc", 15}, {"cab", 15}, {"aab", 2 * 15}, {"aba", 2 * 15}, {"bab", 2 * 15}, {"aaa", 4 * 15},
		{"abcd", 7 + 2 + 2 + 4 + 4 + 4}, {"aaaa", 4 * 23}, {"abab", 4 * 23}, {"aaab", 3 * 23}, {"banana", 3 * 40},
	} {
		x := newSorter(t, c.s)
		wantStep(t, x, greatest, c.steps)
		if x.Steps() != c.steps || !x.Done() {
			t.Errorf("%q: %d steps, done %v, not %d", c.s, x.Steps(), x.Done(), c.steps)
		}
	}
}

// 16.1 and 16.2: done is told just with the last step, wherever steps are cut.
func TestCutEverywhere(t *testing.T) {
	for _, s := range []string{"ba", "aa", "aab", "banana", "abababab", "mississippi"} {
		order, total, _ := plain(s)
		for cut := range total + 1 {
			x := newSorter(t, s)
			wantStep(t, x, cut, cut)
			if cut < total {
				wantState(t, x, len(s), cut, nil)
			}
			wantStep(t, x, greatest, total-cut)
			wantState(t, x, len(s), total, order)
		}
	}
}

// 16.1, 16.2 and 16.5: steps of all short texts, one by one and some by some.
func TestCutShort(t *testing.T) {
	check := func(s string) {
		for _, budget := range []int{1, 2, 3, 5, 7, 1000, greatest} {
			wantCut(t, s, always(budget))
		}
	}
	for n := range 8 {
		eachText(n, "ab", check)
	}
	for n := range 5 {
		eachText(n, "\x00\x7f\x80\xff", check)
	}
}

// 16.1, 16.2 and 16.5: longer texts, whose steps are cut at random; budgets below 1 go none.
func TestCutMany(t *testing.T) {
	random := rand.New(rand.NewSource(1))
	for range 300 {
		s := someText(random, 1+random.Intn(1<<random.Intn(9)))
		often := 1 + random.Intn(4*len(s))
		wantCut(t, s, func() int { return random.Intn(often+2) - 1 })
		wantCut(t, s, always(greatest))
	}
	wantCut(t, someText(random, 3000), always(1))
	wantCut(t, strings.Repeat("a", 1025), always(1))
}

// 16.1: a budget below 1 goes no step, whatever is due.
func TestNoBudget(t *testing.T) {
	order, total, _ := plain("banana")
	x := newSorter(t, "banana")
	for gone := range total {
		for _, budget := range []int{0, -1, -5, least} {
			wantStep(t, x, budget, 0)
		}
		wantState(t, x, 6, gone, nil)
		wantStep(t, x, 1, 1)
	}
	wantState(t, x, 6, total, order)
}

// 16.1: a text may have 900000 bytes, and no more (R4).
func TestTooLong(t *testing.T) {
	s := strings.Repeat("ba", 450001)
	for _, n := range []int{900001, 900002} {
		if x, e := sorter.New(s[:n]); x != nil || e != api.ErrLong {
			t.Errorf("New of %d bytes: %v, %v", n, x != nil, e)
		}
		if l, e := sorter.Of(s[:n]); l != nil || e != api.ErrLong {
			t.Errorf("Of of %d bytes: %d places, %v", n, len(l), e)
		}
	}
	for _, n := range []int{899999, 900000} {
		x := newSorter(t, s[:n])
		wantStep(t, x, 1000001, 1000001)
		wantState(t, x, n, 1000001, nil)
	}
}

// 16.2: a sorter keeps three numbers for each byte, from its beginning to its end.
func TestHeld(t *testing.T) {
	for n := range 70 {
		x := newSorter(t, strings.Repeat("ab", n)[n:])
		for !x.Done() {
			if x.Held() != 3*n {
				t.Fatalf("%d bytes: %d held behind %d steps", n, x.Held(), x.Steps())
			}
			x.Step(5)
		}
		if x.Held() != 3*n {
			t.Fatalf("%d bytes: %d held at the end", n, x.Held())
		}
	}
}

// 16.2: a change of an order that was told changes none that is told later (R3).
func TestOrderApart(t *testing.T) {
	x := newSorter(t, "banana")
	x.Step(greatest)
	x.Order()[0] = 9
	clear(x.Order())
	if l := x.Order(); !slices.Equal(l, []int{5, 3, 1, 0, 4, 2}) {
		t.Errorf("Order: %v", l)
	}
	one, _ := sorter.Of("banana")
	clear(one)
	if l, _ := sorter.Of("banana"); !slices.Equal(l, []int{5, 3, 1, 0, 4, 2}) {
		t.Errorf("Of: %v", l)
	}
}

// 16.5: sorters side by side do not change one another.
func TestSideBySide(t *testing.T) {
	random := rand.New(rand.NewSource(2))
	var texts []string
	var all []*sorter.Sorter
	for i := range 9 {
		texts = append(texts, someText(random, 1+i*20))
		all = append(all, newSorter(t, texts[i]))
	}
	for range 20000 {
		all[random.Intn(len(all))].Step(random.Intn(12))
	}
	for i, x := range all {
		x.Step(greatest)
		order, total, _ := plain(texts[i])
		wantState(t, x, len(texts[i]), total, order)
	}
}

// Of nil: 0, false, none; also of a sorter that New did not make no call dies, and it is one of the empty text.
func TestNil(t *testing.T) {
	var x *sorter.Sorter
	for _, budget := range []int{1, 100, greatest, 0, -1, least} {
		wantStep(t, x, budget, 0)
	}
	if x.Done() || x.Order() != nil || x.Steps() != 0 || x.Held() != 0 {
		t.Errorf("nil: %v, %v, %d, %d", x.Done(), x.Order(), x.Steps(), x.Held())
	}
	y := &sorter.Sorter{}
	wantStep(t, y, greatest, 0)
	wantState(t, y, 0, 0, nil)
	wantState(t, newSorter(t, ""), 0, 0, nil)
	wantState(t, newSorter(t, "a"), 1, 0, []int{0})
}
