package press_test

import (
	"math/rand"
	"strings"
	"testing"

	"baler/api"
	"baler/bwt"
	"baler/press"
	"baler/split"
	"baler/stream"
)

// least and greatest are the ends of all numbers.
const (
	least    = -1 << 63
	greatest = 1<<63 - 1
)

// short is a text to be shown.
func short(s string) string {
	if len(s) > 60 {
		return s[:60] + ".."
	}
	return s
}

// like is a text of so many like bytes.
func like(b byte, n int) string { return strings.Repeat(string([]byte{b}), n) }

// someText is a text of at most so many bytes, of few letters or many, with rows at times.
func someText(random *rand.Rand, most int) string {
	letters, rows := 1+random.Intn(1<<random.Intn(9)), random.Intn(4)
	var s strings.Builder
	for n := random.Intn(most + 1); s.Len() < n; {
		row := 1
		if rows > 0 && random.Intn(8) < rows {
			row = random.Intn(1 << random.Intn(10))
		}
		s.WriteString(like(byte(random.Intn(letters)), min(row, n-s.Len())))
	}
	return s.String()
}

// mark is what is so behind a step, and what that step is.
type mark struct {
	takes  bool   // whether it takes a byte
	behind bool   // whether it is gone behind the end of the input alone
	out    string // what it writes
	split  int    // how much the splitter keeps, as long as the input has not ended
	tail   int    // how many bytes the blocks have, behind the end of the input, that were left in the splitter, and were not written
	kept   int    // how many bytes the block has that the splitter told, and how much its turner keeps
}

// planner makes the steps of a press, as the chapter tells them.
type planner struct {
	w     *stream.Writer
	marks []mark
}

// add puts a step behind all, that keeps what the one ahead does but for what is kept of a block.
func (p *planner) add(m mark, kept int) {
	last := p.marks[len(p.marks)-1]
	m.split, m.tail, m.kept = last.split, last.tail, kept
	p.marks = append(p.marks, m)
}

// block puts the steps behind all that turn a block, and pay for it. What is kept of its body counts here, unless it is in the tail.
func (p *planner) block(b split.Block, behind bool) {
	body := len(b.Body)
	if behind {
		body = 0
	}
	t, _ := bwt.New(b.Body)
	for !t.Done() {
		t.Step(1)
		p.add(mark{behind: behind}, body+t.Held())
	}
	for range len(b.Body) - 1 {
		p.add(mark{behind: behind}, body+t.Held())
	}
	last, origin := t.Result()
	p.w.Turned(last, origin, b.Sum)
	p.add(mark{behind: behind, out: p.w.Take()}, 0)
	if behind {
		p.marks[len(p.marks)-1].tail -= len(b.Body)
	}
}

// planOf are all steps of a press of a text, behind what is so at first.
func planOf(level, unit int, text string) []mark {
	room := level*unit - 19
	blocks, _ := split.Of(text, room)
	s, _ := split.New(room)
	w, _ := stream.New(level)
	tail := 0
	for _, b := range blocks {
		tail += len(b.Body)
	}
	p := &planner{w, []mark{{out: w.Take(), tail: tail}}}
	for i := range len(text) {
		b, whole := s.Put(text[i])
		p.add(mark{takes: true}, len(b.Body))
		now := &p.marks[len(p.marks)-1]
		now.split = s.Held()
		if whole {
			now.tail -= len(b.Body)
			blocks = blocks[1:]
			p.block(b, false)
		}
	}
	for _, b := range blocks {
		p.block(b, true)
	}
	w.End()
	p.add(mark{behind: true, out: w.Take()}, 0)
	return p.marks
}

// watched is a press, and what is known of it.
type watched struct {
	t                   *testing.T
	p                   *press.Press
	level, unit, window int
	need                int
	text                string
	marks               []mark
	steps               int // how many steps were gone
	fed                 int // how many bytes were fed,
	came                int // and of these taken by steps
	ended               bool
	waiting             int    // how many bytes were written and not taken
	out                 []byte // those that were taken
}

// watch is a new press of a text that is watched.
func watch(t *testing.T, level, unit, window int, text string) *watched {
	t.Helper()
	p, e := press.New(level, unit, window)
	if p == nil || e != api.OK {
		t.Fatalf("New(%d, %d, %d): %v, %v", level, unit, window, p != nil, e)
	}
	need, e := press.Need(level, unit, window)
	if e != api.OK {
		t.Fatalf("Need(%d, %d, %d): %v", level, unit, window, e)
	}
	w := &watched{t: t, p: p, level: level, unit: unit, window: window, need: need, text: text, marks: planOf(level, unit, text), waiting: 4}
	w.look()
	return w
}

// fatal fails, and tells where.
func (w *watched) fatal(what string, got, want any) {
	w.t.Helper()
	w.t.Fatalf("%q by %d, %d, %d behind %d steps, %d fed, ended %v, %d waiting: %s is %v, not %v",
		short(w.text), w.level, w.unit, w.window, w.steps, w.fed, w.ended, w.waiting, what, got, want)
}

// stopped tells whether no step can be gone.
func (w *watched) stopped() bool {
	if w.steps == len(w.marks)-1 {
		return true
	}
	next := w.marks[w.steps+1]
	switch {
	case next.takes && w.came == w.fed:
		return true
	case next.behind && !w.ended:
		return true
	}
	return next.out != "" && w.waiting > 0
}

// held is how much is kept.
func (w *watched) held() int {
	now := w.marks[w.steps]
	held := w.fed - w.came + now.kept + w.waiting
	if w.ended && w.came == w.fed {
		return held + now.tail
	}
	return held + now.split
}

// look fails unless the press tells of itself what is so; asked twice, for looking changes nothing.
func (w *watched) look() {
	w.t.Helper()
	for range 2 {
		if got := w.p.Stopped(); got != w.stopped() {
			w.fatal("Stopped", got, !got)
		}
		if got, want := w.p.Done(), w.steps == len(w.marks)-1; got != want {
			w.fatal("Done", got, want)
		}
		if got := w.p.Steps(); got != w.steps {
			w.fatal("Steps", got, w.steps)
		}
		if got := w.p.Waiting(); got != w.waiting {
			w.fatal("Waiting", got, w.waiting)
		}
		if got, want := w.p.Held(), w.held(); got != want || got > w.need {
			w.fatal("Held", got, want)
		}
	}
}

// feed feeds at most so many bytes of what is left of the text.
func (w *watched) feed(n int) {
	w.t.Helper()
	s := w.text[w.fed:][:min(len(w.text)-w.fed, max(n, 0))]
	want := min(len(s), w.window-(w.fed-w.came))
	if w.ended {
		want = 0
	}
	if got := w.p.Feed(s); got != want {
		w.fatal("Feed", got, want)
	}
	w.fed += want
	w.look()
}

// end ends the input, if all was fed; else, or behind the end, nothing is asked.
func (w *watched) end() {
	w.t.Helper()
	if w.fed < len(w.text) || w.ended {
		return
	}
	if e := w.p.End(); e != api.OK {
		w.fatal("End", e, api.OK)
	}
	w.ended = true
	w.look()
}

// step goes steps.
func (w *watched) step(budget int) {
	w.t.Helper()
	was, want := *w, 0
	for ; want < budget && !w.stopped(); want++ {
		w.steps++
		now := w.marks[w.steps]
		if now.takes {
			w.came++
		}
		w.waiting += len(now.out)
	}
	if got := w.p.Step(budget); got != want {
		was.fatal("Step", got, want)
	}
	w.look()
}

// take takes bytes.
func (w *watched) take(most int) {
	w.t.Helper()
	want := max(0, min(most, w.waiting))
	s := w.p.Take(most)
	if len(s) != want {
		w.fatal("how much was taken", len(s), want)
	}
	w.out = append(w.out, s...)
	w.waiting -= want
	w.look()
}

// over fails unless all is done, and what was taken is the stream.
func (w *watched) over() {
	w.t.Helper()
	w.take(greatest)
	if w.steps != len(w.marks)-1 || !w.p.Done() || w.p.Held() != 0 {
		w.fatal("what is kept at the end", w.p.Held(), 0)
	}
	for _, budget := range []int{1, greatest, 0, least} {
		w.step(budget)
	}
	if want, _ := stream.With(w.level, w.unit, w.text); string(w.out) != want {
		w.fatal("what was taken", short(string(w.out)), short(want))
	}
	if e := w.p.End(); e != api.ErrState {
		w.fatal("End again", e, api.ErrState)
	}
	w.feed(0)
	if n := w.p.Feed("abc"); n != 0 {
		w.fatal("Feed behind the end", n, 0)
	}
	w.look()
}

// goOn feeds, steps and takes as cuts tell it, till all is done.
func (w *watched) goOn(feeds, steps, takes func() int) {
	w.t.Helper()
	for idle := 0; !w.p.Done(); idle++ {
		was := [...]int{w.fed, w.steps, len(w.out)}
		w.feed(feeds())
		w.end()
		w.step(steps())
		w.take(takes())
		if was != [...]int{w.fed, w.steps, len(w.out)} {
			idle = 0
		}
		if idle > 1000 {
			w.fatal("going on", false, true)
		}
	}
	w.over()
}

// always is the same number again and again.
func always(n int) func() int { return func() int { return n } }

// upTo is a number from -1 to so many.
func upTo(random *rand.Rand, most int) func() int {
	return func() int { return random.Intn(most+2) - 1 }
}
