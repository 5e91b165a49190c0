package unbwt_test

import (
	"math/rand"
	"strings"
	"testing"

	"baler/api"
	"baler/unbwt"
)

// watched is an inverter, and what is known of it.
type watched struct {
	v     *unbwt.Inverter
	n     int    // how many bytes it has
	text  string // their text
	steps int    // how many steps were gone
	taken int    // how many bytes were taken
}

// newWatched is an inverter that is watched; it fails, if there is none.
func newWatched(t *testing.T, last string, origin int) *watched {
	t.Helper()
	v, e := unbwt.New(last, origin)
	if v == nil || e != api.OK {
		t.Fatalf("New(%q, %d): %v, %v", short(last), origin, v != nil, e)
	}
	w := &watched{v: v, n: len(last), text: plainText(last, origin)}
	w.want(t)
	return w
}

// told is how many bytes were told.
func (w *watched) told() int { return max(0, w.steps-2*w.n) }

// want fails unless the inverter tells of itself what is so.
func (w *watched) want(t *testing.T) {
	t.Helper()
	waiting, done := w.told()-w.taken, w.steps == 3*w.n
	if w.v.Waiting() != waiting || w.v.Done() != done || w.v.Steps() != w.steps || w.v.Held() != 2*w.n+waiting {
		t.Fatalf("%q behind %d steps: %d wait, done %v, %d steps, %d held, not %d, %v, held %d",
			short(w.text), w.steps, w.v.Waiting(), w.v.Done(), w.v.Steps(), w.v.Held(), waiting, done, 2*w.n+waiting)
	}
}

// step fails unless as many steps are gone as there may be.
func (w *watched) step(t *testing.T, budget int) {
	t.Helper()
	want := min(max(budget, 0), 3*w.n-w.steps)
	if n := w.v.Step(budget); n != want {
		t.Fatalf("%q behind %d steps: Step(%d) is %d, not %d", short(w.text), w.steps, budget, n, want)
	}
	w.steps += want
	w.want(t)
}

// take fails unless those bytes are taken that were told, and not taken yet.
func (w *watched) take(t *testing.T) {
	t.Helper()
	if s := w.v.Take(); s != w.text[w.taken:w.told()] {
		t.Fatalf("%q behind %d steps: took %q, not %q", short(w.text), w.steps, short(s), short(w.text[w.taken:w.told()]))
	}
	w.taken = w.told()
	w.want(t)
}

// over fails unless all is told, and no step is left.
func (w *watched) over(t *testing.T) {
	t.Helper()
	w.take(t)
	for _, budget := range []int{1, 2, greatest, 0, -1, least} {
		w.step(t, budget)
	}
	if w.take(t); w.taken != w.n {
		t.Fatalf("%q: %d bytes were taken", short(w.text), w.taken)
	}
}

// wantCut fails unless an inverter goes all steps, cut by budgets, and its bytes are told, taken as often as is told.
func wantCut(t *testing.T, last string, origin int, budgets func() int, takes func() bool) {
	t.Helper()
	w := newWatched(t, last, origin)
	for w.steps < 3*w.n {
		if takes() {
			w.take(t)
		}
		w.step(t, budgets())
	}
	w.over(t)
}

// always is the same budget again and again.
func always(budget int) func() int { return func() int { return budget } }

// often and never tell when bytes are taken: as soon as they are told, or at the end alone.
func often() bool { return true }
func never() bool { return false }

// 18.2: steps by hand: three for each byte, of which the last ones tell bytes.
func TestSteps(t *testing.T) {
	v, e := unbwt.New("nnbaaa", 3)
	if e != api.OK || v.Held() != 12 || v.Steps() != 0 || v.Done() {
		t.Fatalf("New: %d held, %v", v.Held(), e)
	}
	if n := v.Step(12); n != 12 || v.Waiting() != 0 || v.Take() != "" || v.Held() != 12 {
		t.Errorf("Step(12): %d, %d wait", n, v.Waiting())
	}
	if n := v.Step(2); n != 2 || v.Waiting() != 2 || v.Held() != 14 || v.Done() {
		t.Errorf("Step(2): %d, %d wait, %d held", n, v.Waiting(), v.Held())
	}
	if s := v.Take(); s != "ba" || v.Waiting() != 0 || v.Held() != 12 || v.Take() != "" {
		t.Errorf("Take: %q, %d wait, %d held", s, v.Waiting(), v.Held())
	}
	if n := v.Step(100); n != 4 || v.Steps() != 18 || !v.Done() || v.Waiting() != 4 || v.Held() != 16 {
		t.Errorf("Step(100): %d, done %v, %d wait, %d held", n, v.Done(), v.Waiting(), v.Held())
	}
	if s := v.Take(); s != "nana" || !v.Done() || v.Held() != 12 || v.Take() != "" {
		t.Errorf("Take: %q, %d held", s, v.Held())
	}
}

// 18.2 and 18.4: one cut, wherever it may be, with what was told taken there or not.
func TestCutEverywhere(t *testing.T) {
	for _, last := range []string{"a", "ba", "ab", "aa", "nnbaaa", "bbbbaaaa", "pssmipissii", "acb", "\xff\x00\xff\x80"} {
		for origin := range len(last) {
			for cut := range 3*len(last) + 1 {
				for _, taken := range []bool{true, false} {
					w := newWatched(t, last, origin)
					w.step(t, cut)
					if taken {
						w.take(t)
					}
					w.step(t, greatest)
					w.over(t)
				}
			}
		}
	}
}

// 18.2 and 18.4: all short last bytes from all origins, one by one and some by some, taken as they are told or at the end.
func TestCutShort(t *testing.T) {
	check := func(last string) {
		for origin := range len(last) {
			for _, budget := range []int{1, 2, 3, 5, 7, greatest} {
				wantCut(t, last, origin, always(budget), often)
				wantCut(t, last, origin, always(budget), never)
			}
		}
	}
	for n := 1; n < 8; n++ {
		eachText(n, "ab", check)
	}
	for n := 1; n < 5; n++ {
		eachText(n, "\x00\x80\xff", check)
	}
}

// 18.2 and 18.4: longer ones, with steps cut and bytes taken at random; budgets below 1 go none.
func TestCutMany(t *testing.T) {
	random := rand.New(rand.NewSource(5))
	for range 600 {
		last := someText(random, 1+random.Intn(1<<random.Intn(10)))
		most, rare := 1+random.Intn(len(last)), 1+random.Intn(9)
		wantCut(t, last, random.Intn(len(last)), func() int { return random.Intn(most+2) - 1 }, func() bool { return random.Intn(rare) == 0 })
		wantCut(t, last, random.Intn(len(last)), always(len(last)), never)
		wantCut(t, last, random.Intn(len(last)), always(3*len(last)-1), often)
	}
	wantCut(t, someText(random, 20000), 19999, always(1), often)
}

// 18.2: a budget below 1 goes no step, whatever is due.
func TestNoBudget(t *testing.T) {
	w := newWatched(t, "nnbaaa", 3)
	for range 18 {
		for _, budget := range []int{0, -1, -5, least} {
			w.step(t, budget)
		}
		w.step(t, 1)
	}
	w.over(t)
}

// 18.2: bytes that were taken stay as they are, whatever is told behind them (R3).
func TestTakeApart(t *testing.T) {
	v, _ := unbwt.New("nnbaaa", 3)
	v.Step(15)
	s := v.Take()
	v.Step(3)
	if v.Take() != "ana" || s != "ban" {
		t.Errorf("what was taken: %q", s)
	}
}

// 18.2 and 18.4: as many bytes as may be, step by step and taken one by one.
func TestCutLongest(t *testing.T) {
	const n = 900000
	last := strings.Repeat("c", n/3) + strings.Repeat("a", n/3) + strings.Repeat("b", n/3)
	wantCut(t, last, n/2, always(1), often)
	wantCut(t, last, n-1, always(1000), never)
}

// 18.4: inverters side by side do not change one another.
func TestSideBySide(t *testing.T) {
	random := rand.New(rand.NewSource(6))
	var all []*watched
	for i := range 9 {
		last := someText(random, 1+i*20)
		all = append(all, newWatched(t, last, random.Intn(len(last))))
	}
	for range 2000 {
		w := all[random.Intn(len(all))]
		w.step(t, random.Intn(9)-1)
		if random.Intn(3) == 0 {
			w.take(t)
		}
	}
	for _, w := range all {
		w.step(t, greatest)
		w.over(t)
	}
}

// Of nil: 0, false, empty; and so of an inverter that New did not make.
func TestNil(t *testing.T) {
	for _, v := range []*unbwt.Inverter{nil, {}} {
		for _, budget := range []int{1, 100, greatest, 0, -1, least} {
			if n := v.Step(budget); n != 0 {
				t.Errorf("Step(%d): %d", budget, n)
			}
		}
		if v.Take() != "" || v.Waiting() != 0 || v.Done() || v.Steps() != 0 || v.Held() != 0 {
			t.Errorf("%q, %d, done %v, %d steps, %d held", v.Take(), v.Waiting(), v.Done(), v.Steps(), v.Held())
		}
	}
}
