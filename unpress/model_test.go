package unpress_test

import (
	"math/rand"
	"strings"
	"testing"

	"baler/api"
	"baler/bits"
	"baler/crc"
	"baler/stream"
	"baler/unbwt"
	"baler/unpress"
	"baler/unstream"
)

// least and greatest are the ends of all numbers.
const (
	least    = -1 << 63
	greatest = 1<<63 - 1
)

// short is a text to be shown.
func short(s string) string {
	if len(s) > 60 {
		return s[:60] + ".."
	}
	return s
}

// like is a text of so many like bytes.
func like(b byte, n int) string { return strings.Repeat(string([]byte{b}), n) }

// someText is a text of at most so many bytes, of few letters or many, with rows at times.
func someText(random *rand.Rand, most int) string {
	letters, rows := 1+random.Intn(1<<random.Intn(9)), random.Intn(4)
	var s strings.Builder
	for n := random.Intn(most + 1); s.Len() < n; {
		row := 1
		if rows > 0 && random.Intn(8) < rows {
			row = random.Intn(1 << random.Intn(10))
		}
		s.WriteString(like(byte(random.Intn(letters)), min(row, n-s.Len())))
	}
	return s.String()
}

// encoded is a text's stream.
func encoded(level, unit int, text string) string {
	s, _ := stream.With(level, unit, text)
	return s
}

// turned is a bit turned.
func turned(s string, at int) string {
	out := []byte(s)
	out[at/8] ^= 0x80 >> (at % 8)
	return string(out)
}

// part is a step of a block that is being opened: what it tells, or with which error it fails.
type part struct {
	text string
	e    api.Errno
}

// parts are the steps of a block, as the chapter tells them.
func parts(last string, origin int, sum uint32) []part {
	body, _ := unbwt.Of(last, origin)
	all, like, whole := make([]part, 2*len(body)), 0, crc.New()
	for i := range len(body) {
		p := part{text: body[i : i+1]}
		switch {
		case like == 4 && body[i] > 251:
			return append(all, part{e: api.ErrData})
		case like == 4:
			p.text, like = strings.Repeat(body[i-1:i], int(body[i])), 0
		case like > 0 && body[i] == body[i-1]:
			like++
		default:
			like = 1
		}
		all = append(all, p)
		whole.Text(p.text)
	}
	if like == 4 {
		all[len(all)-1].e = api.ErrData
	} else if whole.Value() != sum {
		all[len(all)-1].e = api.ErrCRC
	}
	return all
}

// model is an expander as the chapter tells it.
type model struct {
	limit  int
	r      *bits.Reader // all that was fed
	u      *unstream.Reader
	ended  bool
	short  bool   // whether the reader told ErrShort since
	todo   []part // the steps of a block that is being opened
	opened int    // how many of its steps were gone
	kept   int    // how much its inverter keeps; of a block that fails within, that stays
	told   int    // how many bytes wait
	text   []byte // all that was told
	done   bool
	wrong  api.Errno
	steps  int
}

// stopped tells whether no step can be gone, as far as is known.
func (m *model) stopped() bool {
	if m.done {
		return true
	}
	if len(m.todo) > 0 {
		return m.told >= m.limit
	}
	return m.short
}

// step goes a step; whether it counts.
func (m *model) step() bool {
	if len(m.todo) > 0 {
		m.open()
	} else if !m.read() {
		return false
	}
	m.steps++
	return true
}

// fail fails.
func (m *model) fail(e api.Errno) { m.done, m.wrong = true, e }

// open goes a step of a block.
func (m *model) open() {
	p := m.todo[0]
	m.todo = m.todo[1:]
	m.told += len(p.text)
	m.text = append(m.text, p.text...)
	m.opened++
	if p.e != api.OK {
		m.fail(p.e)
	}
	if m.opened == 3*m.kept/2 {
		m.kept = 0
	}
}

// read goes a step of the reader; whether it counts.
func (m *model) read() bool {
	what, e := m.u.Step(m.r)
	if e == api.ErrShort && !m.ended {
		m.short = true
		return false
	}
	switch {
	case e == api.ErrShort && m.u.MayEnd() && m.r.Left() == 0:
		m.done = true
	case e == api.ErrShort:
		m.fail(api.ErrEnd)
	case e != api.OK:
		m.fail(e)
	case what == unstream.Block:
		g := m.u.Got()
		m.todo, m.kept, m.opened = parts(g.Last, g.Origin, g.Sum), 2*len(g.Last), 0
	}
	return true
}

// waits is how many bytes were fed, and not forgotten.
func (m *model) waits() int { return (m.r.At()+m.r.Left())/8 - m.r.At()/8 }

// held is how much is kept.
func (m *model) held() int { return m.waits() + m.u.Held() + m.kept + m.told }

// watched is an expander, what it must be, and what it is fed with.
type watched struct {
	t            *testing.T
	x            *unpress.Expander
	want         *model
	s            string
	unit, window int
	need         int
	fed, taken   int // how many bytes were fed and taken
}

// watch is a new expander that is watched.
func watch(t *testing.T, unit, window, limit int, s string) *watched {
	t.Helper()
	x, e := unpress.New(unit, window, limit)
	if x == nil || e != api.OK {
		t.Fatalf("New(%d, %d, %d): %v, %v", unit, window, limit, x != nil, e)
	}
	need, e := unpress.Need(unit, window, limit)
	if e != api.OK {
		t.Fatalf("Need(%d, %d, %d): %v", unit, window, limit, e)
	}
	u, _ := unstream.New(unit)
	w := &watched{t: t, x: x, want: &model{limit: limit, r: bits.NewReader(""), u: u}, s: s, unit: unit, window: window, need: need}
	w.look()
	return w
}

// fatal fails, and tells where.
func (w *watched) fatal(what string, got, want any) {
	w.t.Helper()
	w.t.Fatalf("%x of %d by %d, %d, %d behind %d steps, %d fed, ended %v, %d waiting: %s is %v, not %v",
		short(w.s), len(w.s), w.unit, w.window, w.want.limit, w.want.steps, w.fed, w.want.ended, w.want.told, what, got, want)
}

// look fails unless the expander tells of itself what is so; asked twice, for looking changes nothing.
func (w *watched) look() {
	w.t.Helper()
	for range 2 {
		if got := w.x.Stopped(); got != w.want.stopped() {
			w.fatal("Stopped", got, !got)
		}
		if got := w.x.Done(); got != w.want.done {
			w.fatal("Done", got, !got)
		}
		if got := w.x.Err(); got != w.want.wrong {
			w.fatal("Err", got, w.want.wrong)
		}
		if got := w.x.Steps(); got != w.want.steps {
			w.fatal("Steps", got, w.want.steps)
		}
		if got := w.x.Waiting(); got != w.want.told {
			w.fatal("Waiting", got, w.want.told)
		}
		if got, want := w.x.Held(), w.want.held(); got != want || got > w.need {
			w.fatal("Held", got, want)
		}
	}
}

// feed feeds at most so many bytes of those that are left.
func (w *watched) feed(n int) {
	w.t.Helper()
	s := w.s[w.fed:][:min(len(w.s)-w.fed, max(n, 0))]
	want := min(len(s), w.window-w.want.waits())
	if w.want.ended || w.want.done {
		want = 0
	}
	if got := w.x.Feed(s); got != want {
		w.fatal("Feed", got, want)
	}
	if want > 0 {
		w.want.r.More(s[:want])
		w.want.short = false
	}
	w.fed += want
	w.look()
}

// end ends the input, if all was fed, or it is done; behind the end that is refused.
func (w *watched) end() {
	w.t.Helper()
	if w.fed < len(w.s) && !w.want.done {
		return
	}
	want := api.OK
	if w.want.ended {
		want = api.ErrState
	} else {
		w.want.ended, w.want.short = true, false
	}
	if e := w.x.End(); e != want {
		w.fatal("End", e, want)
	}
	w.look()
}

// step goes steps.
func (w *watched) step(budget int) {
	w.t.Helper()
	want := 0
	for want < budget && !w.want.stopped() && w.want.step() {
		want++
	}
	if got := w.x.Step(budget); got != want {
		w.fatal("Step", got, want)
	}
	w.look()
}

// take takes bytes.
func (w *watched) take(most int) {
	w.t.Helper()
	n := max(0, min(most, w.want.told))
	want := string(w.want.text[w.taken : w.taken+n])
	if s := w.x.Take(most); s != want {
		w.fatal("Take", short(s), short(want))
	}
	w.taken += n
	w.want.told -= n
	w.look()
}

// goOn feeds, steps and takes as cuts tell it, till all is done; and fails unless With tells the same.
func (w *watched) goOn(feeds, steps, takes func() int) {
	w.t.Helper()
	for idle := 0; !w.x.Done(); idle++ {
		was := [...]int{w.fed, w.want.steps, w.taken}
		w.feed(feeds())
		w.end()
		w.step(steps())
		w.take(takes())
		if was != [...]int{w.fed, w.want.steps, w.taken} {
			idle = 0
		}
		if idle > 1000 {
			w.fatal("going on", false, true)
		}
	}
	w.over()
}

// over fails unless it is done, does nothing any more, and With tells the same.
func (w *watched) over() {
	w.t.Helper()
	for _, n := range []int{1, greatest, 0, least} {
		w.step(n)
		w.feed(n)
		w.take(n)
	}
	w.end()
	w.end()
	text, e := unstream.With(w.unit, w.s)
	if !w.x.Done() || w.x.Err() != e {
		w.fatal("Err at the end", w.x.Err(), e)
	}
	if _, fed := unstream.With(w.unit, w.s[:w.fed]); fed != e {
		w.fatal("Err of what was fed", fed, e)
	}
	if got := string(w.want.text); e == api.OK && (got != text || w.taken != len(text) || w.x.Held() != 0) {
		w.fatal("what was taken", short(got), short(text))
	}
}

// always is the same number again and again.
func always(n int) func() int { return func() int { return n } }

// upTo is a number from -1 to so many.
func upTo(random *rand.Rand, most int) func() int {
	return func() int { return random.Intn(most+2) - 1 }
}
