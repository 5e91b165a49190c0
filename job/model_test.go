package job_test

import (
	"math/rand"
	"strconv"
	"strings"
	"testing"

	"baler/api"
	"baler/job"
	"baler/press"
	"baler/stream"
	"baler/tester"
	"baler/unpress"
	"baler/unstream"
)

// least and greatest are the ends of all numbers.
const (
	least    = -1 << 63
	greatest = 1<<63 - 1
)

// kinds are all kinds that there are.
var kinds = []api.Kind{api.Compress, api.Expand, api.Test}

// short is a text to be shown.
func short(s string) string {
	if len(s) > 60 {
		return s[:60] + ".."
	}
	return s
}

// like is a text of so many like bytes.
func like(b byte, n int) string { return strings.Repeat(string([]byte{b}), n) }

// someText is a text of at most so many bytes, of few letters or many, with rows at times.
func someText(random *rand.Rand, most int) string {
	letters, rows := 1+random.Intn(1<<random.Intn(9)), random.Intn(4)
	var s strings.Builder
	for n := random.Intn(most + 1); s.Len() < n; {
		row := 1
		if rows > 0 && random.Intn(8) < rows {
			row = random.Intn(1 << random.Intn(10))
		}
		s.WriteString(like(byte(random.Intn(letters)), min(row, n-s.Len())))
	}
	return s.String()
}

// encoded is a text's stream.
func encoded(level, unit int, text string) string {
	s, _ := stream.With(level, unit, text)
	return s
}

// turned is a bit turned.
func turned(s string, at int) string {
	out := []byte(s)
	out[at/8] ^= 0x80 >> (at % 8)
	return string(out)
}

// made is what a kind makes of bytes, as the chapter tells it.
func made(kind api.Kind, level, unit int, s string) (string, api.Errno) {
	if kind == api.Compress {
		return stream.With(level, unit, s)
	}
	text, e := unstream.With(unit, s)
	if e == api.OK && kind == api.Test {
		return strconv.Itoa(len(text)), api.OK
	}
	return text, e
}

// machine is what a job has.
type machine interface {
	Feed(s string) int
	End() api.Errno
	Step(budget int) int
	Stopped() bool
	Take(most int) string
	Waiting() int
	Done() bool
	Steps() int
	Held() int
}

// bare is a machine as a job of that kind has it, and what it tells of errors, bytes counted and need.
type bare struct {
	machine
	wrong func() api.Errno
	count func() int
	need  int
}

// bareOf is a bare machine.
func bareOf(kind api.Kind, level, unit, window int) bare {
	b := bare{wrong: func() api.Errno { return api.OK }, count: func() int { return 0 }}
	switch kind {
	case api.Compress:
		b.machine, _ = press.New(level, unit, window)
		b.need, _ = press.Need(level, unit, window)
	case api.Expand:
		x, _ := unpress.New(unit, window, 4096)
		b.machine, b.wrong = x, x.Err
		b.need, _ = unpress.Need(unit, window, 4096)
	case api.Test:
		x, _ := tester.New(unit, window)
		b.machine, b.wrong, b.count = x, x.Err, x.Count
		b.need, _ = tester.Need(unit, window)
	}
	return b
}

// watched is a job, a machine that must tell the same as long as it did not fail, and what they are fed with.
type watched struct {
	t           *testing.T
	j           *job.Job
	want        bare
	kind        api.Kind
	level, unit int
	s           string
	fed         int // how many bytes were fed
	ended       bool
	taken       strings.Builder
}

// watch is a new job that is watched.
func watch(t *testing.T, kind api.Kind, level, unit, window int, s string) *watched {
	t.Helper()
	j, e := job.New(kind, level, unit, window)
	if j == nil || e != api.OK {
		t.Fatalf("New(%d, %d, %d, %d): %v, %v", kind, level, unit, window, j != nil, e)
	}
	w := &watched{t: t, j: j, want: bareOf(kind, level, unit, window), kind: kind, level: level, unit: unit, s: s}
	if need, e := job.Need(kind, level, unit, window); need != w.want.need || e != api.OK {
		t.Fatalf("Need(%d, %d, %d, %d): %d, %v, not %d", kind, level, unit, window, need, e, w.want.need)
	}
	w.look()
	return w
}

// fatal fails, and tells where.
func (w *watched) fatal(what string, got, want any) {
	w.t.Helper()
	w.t.Fatalf("kind %d, %x of %d by %d, %d behind %d steps, %d fed, ended %v: %s is %v, not %v",
		w.kind, short(w.s), len(w.s), w.level, w.unit, w.want.Steps(), w.fed, w.ended, what, got, want)
}

// failed tells whether it must have failed.
func (w *watched) failed() bool { return w.want.wrong() != api.OK }

// waiting is how many bytes must wait to be taken: none of one that failed.
func (w *watched) waiting() int {
	if w.failed() {
		return 0
	}
	return w.want.Waiting()
}

// held is how much must be kept: nothing of one that failed.
func (w *watched) held() int {
	if w.failed() {
		return 0
	}
	return w.want.Held()
}

// look fails unless the job tells of itself what is so; asked twice, for looking changes nothing.
func (w *watched) look() {
	w.t.Helper()
	for range 2 {
		if got := w.j.Kind(); got != w.kind {
			w.fatal("Kind", got, w.kind)
		}
		if got := w.j.Stopped(); got != w.want.Stopped() {
			w.fatal("Stopped", got, !got)
		}
		if got := w.j.Done(); got != w.want.Done() {
			w.fatal("Done", got, !got)
		}
		if got := w.j.Err(); got != w.want.wrong() {
			w.fatal("Err", got, w.want.wrong())
		}
		if got := w.j.Count(); got != w.want.count() {
			w.fatal("Count", got, w.want.count())
		}
		if got := w.j.Steps(); got != w.want.Steps() {
			w.fatal("Steps", got, w.want.Steps())
		}
		if got := w.j.Waiting(); got != w.waiting() {
			w.fatal("Waiting", got, w.waiting())
		}
		if got := w.j.Finished(); got != (w.want.Done() && w.waiting() == 0) {
			w.fatal("Finished", got, !got)
		}
		if got := w.j.Held(); got != w.held() || got > w.want.need {
			w.fatal("Held", got, w.held())
		}
	}
}

// feed feeds at most so many bytes of those that are left.
func (w *watched) feed(n int) {
	w.t.Helper()
	s := w.s[w.fed:][:min(len(w.s)-w.fed, max(n, 0))]
	want := w.want.Feed(s)
	if got := w.j.Feed(s); got != want || w.j.Done() && got != 0 {
		w.fatal("Feed", got, want)
	}
	w.fed += want
	w.look()
}

// end ends the input, if all was fed, or it is done; behind the end that is refused.
func (w *watched) end() {
	w.t.Helper()
	if w.fed < len(w.s) && !w.want.Done() {
		return
	}
	want := api.OK
	if w.ended {
		want = api.ErrState
	}
	if e := w.j.End(); e != want {
		w.fatal("End", e, want)
	}
	w.want.End()
	w.ended = true
	w.look()
}

// step goes steps.
func (w *watched) step(budget int) {
	w.t.Helper()
	want := w.want.Step(budget)
	if got := w.j.Step(budget); got != want {
		w.fatal("Step", got, want)
	}
	w.look()
}

// take takes bytes.
func (w *watched) take(most int) {
	w.t.Helper()
	want := ""
	if !w.failed() {
		want = w.want.Take(most)
	}
	got := w.j.Take(most)
	if got != want {
		w.fatal("Take", short(got), short(want))
	}
	w.taken.WriteString(got)
	w.look()
}

// goOn feeds, steps and takes as cuts tell it, till it is finished.
func (w *watched) goOn(feeds, steps, takes func() int) {
	w.t.Helper()
	for idle := 0; !w.j.Finished(); idle++ {
		was := [...]int{w.fed, w.j.Steps(), w.taken.Len()}
		w.feed(feeds())
		if !w.ended {
			w.end()
		}
		w.step(steps())
		w.take(takes())
		if was != [...]int{w.fed, w.j.Steps(), w.taken.Len()} {
			idle = 0
		}
		if idle > 1000 {
			w.fatal("going on", false, true)
		}
	}
	w.over()
}

// over fails unless it is finished, does nothing any more, and what its kind makes of the bytes was taken, or its error is theirs.
func (w *watched) over() {
	w.t.Helper()
	for _, n := range []int{1, greatest, 0, least} {
		w.step(n)
		w.feed(n)
		w.take(n)
	}
	w.end()
	w.end()
	want, e := made(w.kind, w.level, w.unit, w.s)
	if !w.j.Finished() || w.j.Err() != e {
		w.fatal("Err at the end", w.j.Err(), e)
	}
	if got := w.taken.String(); e == api.OK && got != want {
		w.fatal("what was taken", short(got), short(want))
	}
}

// always is the same number again and again.
func always(n int) func() int { return func() int { return n } }

// upTo is a number from -1 to so many.
func upTo(random *rand.Rand, most int) func() int {
	return func() int { return random.Intn(most+2) - 1 }
}

// someStreams are streams of texts, one behind the other, with something wrong at times.
func someStreams(random *rand.Rand, unit int) string {
	s := ""
	for range 1 + random.Intn(3) {
		s += encoded(1+random.Intn(9), unit, someText(random, 1+random.Intn(300)))
	}
	switch random.Intn(6) {
	case 0:
		return s[:random.Intn(len(s)+1)]
	case 1:
		return turned(s, random.Intn(8*len(s)))
	case 2:
		return s + someText(random, 50)
	case 3:
		at := random.Intn(len(s))
		return s[:at] + someText(random, 9) + s[at:]
	}
	return s
}

// someInput is something to be fed to a job of that kind.
func someInput(random *rand.Rand, kind api.Kind, unit int) string {
	if kind == api.Compress {
		return someText(random, 1+random.Intn(600))
	}
	return someStreams(random, unit)
}
