package tester_test

import (
	"math/rand"
	"strconv"
	"strings"
	"testing"

	"baler/api"
	"baler/stream"
	"baler/tester"
	"baler/unpress"
	"baler/unstream"
)

// least and greatest are the ends of all numbers.
const (
	least    = -1 << 63
	greatest = 1<<63 - 1
)

// short is a text to be shown.
func short(s string) string {
	if len(s) > 60 {
		return s[:60] + ".."
	}
	return s
}

// like is a text of so many like bytes.
func like(b byte, n int) string { return strings.Repeat(string([]byte{b}), n) }

// mixed is a text of so many bytes of which no two neighbours are like.
func mixed(n int) string {
	out := make([]byte, n)
	for i := range out {
		out[i] = byte(i * 7)
	}
	return string(out)
}

// someText is a text of at most so many bytes, of few letters or many, with rows at times.
func someText(random *rand.Rand, most int) string {
	letters, rows := 1+random.Intn(1<<random.Intn(9)), random.Intn(4)
	var s strings.Builder
	for n := random.Intn(most + 1); s.Len() < n; {
		row := 1
		if rows > 0 && random.Intn(8) < rows {
			row = random.Intn(1 << random.Intn(10))
		}
		s.WriteString(like(byte(random.Intn(letters)), min(row, n-s.Len())))
	}
	return s.String()
}

// encoded is a text's stream.
func encoded(level, unit int, text string) string {
	s, _ := stream.With(level, unit, text)
	return s
}

// turned is a bit turned.
func turned(s string, at int) string {
	out := []byte(s)
	out[at/8] ^= 0x80 >> (at % 8)
	return string(out)
}

// model is a tester as the chapter tells it: an expander of which all that waits is taken behind each step.
type model struct {
	x      *unpress.Expander
	waits  int // how many of the bytes taken were not counted
	count  int
	answer string // what waits of it
}

// step goes a step; whether there was one.
func (m *model) step() bool {
	gone := m.x.Step(1)
	m.waits += len(m.x.Take(greatest))
	if m.waits >= 4096 || m.x.Done() {
		m.count += m.waits
		m.waits = 0
	}
	if gone == 1 && m.x.Done() && m.x.Err() == api.OK {
		m.answer = strconv.Itoa(m.count)
	}
	return gone == 1
}

// held is how much is kept.
func (m *model) held() int { return m.x.Held() + m.waits + len(m.answer) }

// watched is a tester, what it must be, and what it is fed with.
type watched struct {
	t     *testing.T
	x     *tester.Tester
	want  *model
	s     string
	unit  int
	need  int
	fed   int // how many bytes were fed,
	taken string
}

// watch is a new tester that is watched.
func watch(t *testing.T, unit, window int, s string) *watched {
	t.Helper()
	x, e := tester.New(unit, window)
	if x == nil || e != api.OK {
		t.Fatalf("New(%d, %d): %v, %v", unit, window, x != nil, e)
	}
	need, e := tester.Need(unit, window)
	if e != api.OK {
		t.Fatalf("Need(%d, %d): %v", unit, window, e)
	}
	of, _ := unpress.New(unit, window, 1)
	w := &watched{t: t, x: x, want: &model{x: of}, s: s, unit: unit, need: need}
	w.look()
	return w
}

// fatal fails, and tells where.
func (w *watched) fatal(what string, got, want any) {
	w.t.Helper()
	w.t.Fatalf("%x of %d by %d behind %d steps, %d fed, %d counted: %s is %v, not %v",
		short(w.s), len(w.s), w.unit, w.want.x.Steps(), w.fed, w.want.count, what, got, want)
}

// look fails unless the tester tells of itself what is so; asked twice, for looking changes nothing.
func (w *watched) look() {
	w.t.Helper()
	for range 2 {
		if got := w.x.Stopped(); got != w.want.x.Stopped() {
			w.fatal("Stopped", got, !got)
		}
		if got := w.x.Done(); got != w.want.x.Done() {
			w.fatal("Done", got, !got)
		}
		if got, want := w.x.Err(), w.want.x.Err(); got != want {
			w.fatal("Err", got, want)
		}
		if got := w.x.Count(); got != w.want.count {
			w.fatal("Count", got, w.want.count)
		}
		if got, want := w.x.Steps(), w.want.x.Steps(); got != want {
			w.fatal("Steps", got, want)
		}
		if got, want := w.x.Waiting(), len(w.want.answer); got != want {
			w.fatal("Waiting", got, want)
		}
		if got, want := w.x.Held(), w.want.held(); got != want || got > w.need {
			w.fatal("Held", got, want)
		}
	}
}

// feed feeds at most so many bytes of those that are left.
func (w *watched) feed(n int) {
	w.t.Helper()
	s := w.s[w.fed:][:min(len(w.s)-w.fed, max(n, 0))]
	want := w.want.x.Feed(s)
	if got := w.x.Feed(s); got != want {
		w.fatal("Feed", got, want)
	}
	w.fed += want
	w.look()
}

// end ends the input, if all was fed, or it is done; behind the end that is refused.
func (w *watched) end() {
	w.t.Helper()
	if w.fed < len(w.s) && !w.want.x.Done() {
		return
	}
	want := w.want.x.End()
	if e := w.x.End(); e != want {
		w.fatal("End", e, want)
	}
	w.look()
}

// step goes steps.
func (w *watched) step(budget int) {
	w.t.Helper()
	want := 0
	for want < budget && w.want.step() {
		want++
	}
	if got := w.x.Step(budget); got != want {
		w.fatal("Step", got, want)
	}
	w.look()
}

// take takes bytes.
func (w *watched) take(most int) {
	w.t.Helper()
	n := max(0, min(most, len(w.want.answer)))
	want := w.want.answer[:n]
	if s := w.x.Take(most); s != want {
		w.fatal("Take", s, want)
	}
	w.taken += want
	w.want.answer = w.want.answer[n:]
	w.look()
}

// goOn feeds, steps and takes as cuts tell it, till all is done; and fails unless With tells the same.
func (w *watched) goOn(feeds, steps, takes func() int) {
	w.t.Helper()
	for idle := 0; !w.x.Done(); idle++ {
		fed, gone := w.fed, w.x.Steps()
		w.feed(feeds())
		w.end()
		w.step(steps())
		w.take(takes())
		if fed != w.fed || gone != w.x.Steps() {
			idle = 0
		}
		if idle > 1000 {
			w.fatal("going on", false, true)
		}
	}
	w.over()
}

// over fails unless it is done, does nothing any more, and With tells the same.
func (w *watched) over() {
	w.t.Helper()
	for _, n := range []int{1, greatest, 0, least} {
		w.step(n)
		w.feed(n)
		w.take(n)
	}
	w.end()
	w.end()
	text, e := unstream.With(w.unit, w.s)
	if !w.x.Done() || w.x.Err() != e {
		w.fatal("Err at the end", w.x.Err(), e)
	}
	if e != api.OK && w.taken != "" {
		w.fatal("what was taken", w.taken, "nothing")
	}
	if e == api.OK && (w.taken != strconv.Itoa(len(text)) || w.x.Count() != len(text) || w.x.Held() != 0) {
		w.fatal("what was taken", w.taken, len(text))
	}
}

// always is the same number again and again.
func always(n int) func() int { return func() int { return n } }

// upTo is a number from -1 to so many.
func upTo(random *rand.Rand, most int) func() int {
	return func() int { return random.Intn(most+2) - 1 }
}
