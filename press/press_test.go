package press_test

import (
	"compress/bzip2"
	"io"
	"math/rand"
	"strings"
	"testing"

	"baler/api"
	"baler/bwt"
	"baler/press"
	"baler/split"
	"baler/stream"
)

// 23.1, 23.4: what may be, and what may not; and how much is kept at most.
func TestNew(t *testing.T) {
	levels := map[int]bool{1: true, 2: true, 8: true, 9: true, 0: false, 10: false, -1: false, 1<<32 + 1: false, least: false, greatest: false}
	units := map[int]bool{24: true, 25: true, 99999: true, 100000: true, 23: false, 100001: false, 0: false, -24: false, 1<<32 + 24: false, least: false, greatest: false}
	windows := map[int]bool{64: true, 65: true, 1<<20 - 1: true, 1 << 20: true, 63: false, 1<<20 + 1: false, 0: false, -64: false, 1<<32 + 64: false, least: false, greatest: false}
	for level, isLevel := range levels {
		for unit, isUnit := range units {
			for window, isWindow := range windows {
				p, e := press.New(level, unit, window)
				need, f := press.Need(level, unit, window)
				if !isLevel || !isUnit || !isWindow {
					if p != nil || e != api.ErrArg || need != 0 || f != api.ErrArg {
						t.Errorf("%d, %d, %d: New %v, %v; Need %d, %v", level, unit, window, p != nil, e, need, f)
					}
					continue
				}
				if room := level*unit - 19; p == nil || e != api.OK || need != window+8*room+12000+3*room+1024 || f != api.OK {
					t.Errorf("%d, %d, %d: New %v, %v; Need %d, %v", level, unit, window, p != nil, e, need, f)
				}
				if p.Stopped() != true || p.Done() || p.Waiting() != 4 || p.Held() != 4 || p.Steps() != 0 {
					t.Errorf("%d, %d, %d: %v, %v, %d wait, %d held", level, unit, window, p.Stopped(), p.Done(), p.Waiting(), p.Held())
				}
			}
		}
	}
}

// 23.4: the chapter's reckoning by hand.
func TestNeed(t *testing.T) {
	for _, c := range [][4]int{{1, 24, 64, 64 + 40 + 12015 + 1024}, {2, 24, 64, 13407}, {9, 100000, 1 << 20, 1048576 + 7199848 + 2711943 + 1024}} {
		if n, e := press.Need(c[0], c[1], c[2]); n != c[3] || e != api.OK {
			t.Errorf("Need(%d, %d, %d): %d, %v, not %d", c[0], c[1], c[2], n, e, c[3])
		}
	}
}

// 23.2: the example: a byte, its last byte, its payment, the end; of these the last two wait till what was written is taken.
func TestOneByte(t *testing.T) {
	p, _ := press.New(9, 100000, 64)
	if p.Feed("a") != 1 || p.End() != api.OK {
		t.Fatal("Feed, End")
	}
	look := func(steps int, stopped, done bool, waiting, held int) {
		t.Helper()
		if p.Steps() != steps || p.Stopped() != stopped || p.Done() != done || p.Waiting() != waiting || p.Held() != held {
			t.Fatalf("%d steps, stopped %v, done %v, %d wait, %d held", p.Steps(), p.Stopped(), p.Done(), p.Waiting(), p.Held())
		}
	}
	look(0, false, false, 4, 5)
	if n := p.Step(1); n != 1 {
		t.Fatalf("a byte: %d", n)
	}
	look(1, false, false, 4, 5)
	if n := p.Step(100); n != 1 {
		t.Fatalf("its last byte: %d", n)
	}
	look(2, true, false, 4, 4+1+4)
	if s := p.Take(3); s != "BZh" || p.Step(1) != 0 {
		t.Fatalf("Take: %q", s)
	}
	look(2, true, false, 1, 1+1+4)
	if s := p.Take(100); s != "9" {
		t.Fatalf("Take: %q", s)
	}
	look(2, false, false, 0, 1+4)
	if n := p.Step(100); n != 1 {
		t.Fatalf("its payment: %d", n)
	}
	look(3, true, false, 22, 22)
	if s := p.Take(22); s != "1AY&SY\x19\x93\x9b\x6b\x00\x00\x00\x01\x00\x20\x00\x20\x00\x21\x18\x46" {
		t.Fatalf("Take: %x", s)
	}
	look(3, false, false, 0, 0)
	if n := p.Step(100); n != 1 {
		t.Fatalf("the end: %d", n)
	}
	look(4, true, true, 11, 11)
	if s := p.Take(100); s != "\x82\xee\x48\xa7\x0a\x12\x03\x32\x73\x6d\x60" {
		t.Fatalf("Take: %x", s)
	}
	look(4, true, true, 0, 0)
}

// 23.2: the empty text: one step, behind the taking of the beginning.
func TestNoByte(t *testing.T) {
	w := watch(t, 1, 24, 64, "")
	w.step(greatest)
	w.end()
	w.step(greatest)
	w.take(3)
	w.step(greatest)
	w.take(1)
	w.step(greatest)
	w.over()
	if w.steps != 1 || string(w.out) != "BZh1\x17\x72\x45\x38\x50\x90\x00\x00\x00\x00" {
		t.Errorf("%d steps, %x", w.steps, w.out)
	}
}

// 23.1: as many bytes are fed as the window has room for; room comes with each byte that is taken by a step.
func TestFeed(t *testing.T) {
	for _, window := range []int{64, 65, 100, 1000} {
		w := watch(t, 9, 100, window, like('x', 700)+strings.Repeat("abc", 500))
		w.feed(0)
		w.feed(window - 1)
		w.feed(2)
		w.feed(1)
		w.step(3)
		w.feed(2)
		w.feed(5)
		w.step(window)
		w.feed(greatest)
		w.goOn(always(7), always(11), always(3))
	}
}

// 23.1: as many bytes as may wait at most.
func TestWidestWindow(t *testing.T) {
	p, _ := press.New(1, 24, 1<<20)
	s := strings.Repeat("ab", 1<<19)
	if n := p.Feed(s[:1<<20-1]); n != 1<<20-1 {
		t.Errorf("Feed: %d", n)
	}
	if n := p.Feed(s); n != 1 || p.Feed("a") != 0 || p.Held() != 1<<20+4 {
		t.Errorf("Feed: %d, and %d held", n, p.Held())
	}
	if n := p.Step(3); n != 3 || p.Feed(s) != 3 {
		t.Errorf("Step: %d", n)
	}
}

// 23.1: bytes that the end comes behind are taken all the same; a further End, and a further Feed, change nothing.
func TestEnd(t *testing.T) {
	for _, text := range []string{"", "a", "abcde", "abcdef", like('x', 64), strings.Repeat("abc", 21)} {
		for gone := range len(text) + 1 {
			w := watch(t, 1, 24, 64, text)
			w.feed(64)
			w.step(gone)
			w.end()
			if e := w.p.End(); e != api.ErrState {
				t.Fatalf("End again: %v", e)
			}
			if n := w.p.Feed("x"); n != 0 {
				t.Fatalf("Feed behind the end: %d", n)
			}
			w.look()
			w.goOn(always(0), always(1), always(1))
		}
	}
}

// 23.2: the splitter's last blocks are whole as soon as the end is told and no byte waits: up to three blocks wait then.
func TestLastBlocks(t *testing.T) {
	// The room is 5: the byte of b tells the first block, and the end tells aaaa and a count, and b.
	for _, text := range []string{"wxyzaaaab", "xaaaab", "aaaab", "vwxyzaaaaaab", "wxyzaaaabbbb", "wxyzaaaa" + like('a', 300) + "b"} {
		for before := range 200 {
			w := watch(t, 1, 24, 64, text)
			for w.fed < len(text) {
				w.feed(64)
				w.step(len(text))
				w.take(greatest)
			}
			for w.came < len(text) {
				w.step(1)
				w.take(greatest)
			}
			w.step(before)
			w.take(greatest)
			w.end()
			w.goOn(always(0), always(3), always(greatest))
		}
	}
}

// 23.2: steps below 1 are none, whatever is due.
func TestNoBudget(t *testing.T) {
	w := watch(t, 1, 24, 64, "abcdefgggggggabcabcabc")
	for !w.p.Done() {
		w.feed(2)
		w.end()
		for _, budget := range []int{0, -1, -5, least} {
			w.step(budget)
		}
		w.step(1)
		w.take(2)
	}
	w.over()
}

// 23.3: taking: none of a most below 1; as many as most, or as there are.
func TestTake(t *testing.T) {
	w := watch(t, 2, 24, 64, "banana")
	for _, most := range []int{0, -1, least, 1, 2, 2, 1, greatest} {
		w.take(most)
	}
	if string(w.out) != "BZh2" {
		t.Fatalf("%q", w.out)
	}
	w.feed(6)
	w.end()
	w.step(greatest)
	for w.waiting > 0 {
		for _, most := range []int{least, 0, 1, 3, -3, 2} {
			w.take(most)
		}
	}
	w.step(greatest)
	w.take(w.waiting)
	w.over()
}

// 23.3: what was taken stays as it is, whatever is written behind it (R3).
func TestTakeApart(t *testing.T) {
	p, _ := press.New(1, 24, 64)
	p.Feed("abcdefghij")
	one := p.Take(2)
	two := p.Take(2)
	p.End()
	p.Step(greatest)
	three := p.Take(greatest)
	was := strings.Clone(three)
	p.Step(greatest)
	p.Take(greatest)
	if one != "BZ" || two != "h1" || three != was {
		t.Errorf("%q, %q, %q", one, two, three)
	}
}

// 23.2 and 23.6: one cut of the steps, wherever it may be, with what was written taken there or not.
func TestCutEverywhere(t *testing.T) {
	for _, text := range []string{"a", "aa", "abcdef", "aaaaaab", like('x', 40) + "yyyyzzzzab"} {
		for cut := range len(planOf(1, 24, text)) + 1 {
			for _, most := range []int{0, 1, greatest} {
				w := watch(t, 1, 24, 64, text)
				w.feed(64)
				w.end()
				for w.steps < cut && !w.p.Done() {
					w.step(cut - w.steps)
					w.take(max(1, w.waiting))
				}
				w.take(most)
				w.goOn(always(0), always(greatest), always(greatest))
			}
		}
	}
}

// 23.2, 23.5 and 23.6: all short texts of two letters, fed and gone in some ways.
func TestShort(t *testing.T) {
	for n := range 11 {
		for which := range 1 << n {
			text := ""
			for i := range n {
				text += string(rune('a' + which>>i&1))
			}
			watch(t, 1, 24, 64, text).goOn(always(1), always(1), always(1))
			watch(t, 1, 24, 64, text).goOn(always(64), always(greatest), always(greatest))
			watch(t, 1, 25, 64, text).goOn(always(3), always(5), always(2))
		}
	}
}

// 23.2, 23.3, 23.5, 23.6 and 23.7: texts of all kinds, cut in all ways.
func TestMany(t *testing.T) {
	random := rand.New(rand.NewSource(1))
	for range 400 {
		text := someText(random, 1+random.Intn(1000))
		level, unit, window := 1+random.Intn(9), 24+random.Intn(1+random.Intn(100)), 64+random.Intn(1+random.Intn(900))
		size := func() func() int { return upTo(random, 1+random.Intn(1<<random.Intn(12))) }
		watch(t, level, unit, window, text).goOn(size(), size(), size())
	}
}

// 23.6: how many steps there are in all: one for each byte, for each block those of its turner and one for each of its last bytes, and one.
func TestSteps(t *testing.T) {
	random := rand.New(rand.NewSource(2))
	for range 60 {
		text := someText(random, 3000)
		level, unit := 1+random.Intn(9), 24+random.Intn(300)
		blocks, _ := split.Of(text, level*unit-19)
		want := len(text) + 1
		for _, b := range blocks {
			x, _ := bwt.New(b.Body)
			x.Step(greatest)
			want += x.Steps() + len(b.Body)
		}
		p, _ := press.New(level, unit, 64)
		for fed := 0; !p.Done(); {
			fed += p.Feed(text[fed:])
			if fed == len(text) {
				p.End()
			}
			p.Step(1 + random.Intn(10000))
			p.Take(random.Intn(1000))
		}
		if p.Steps() != want {
			t.Errorf("%q by %d, %d: %d steps, not %d", short(text), level, unit, p.Steps(), want)
		}
	}
}

// pressed is what is taken of a press of a text, of whose greatest Held it tells.
func pressed(level, unit, window, budget int, text string) (string, int) {
	p, _ := press.New(level, unit, window)
	held := 0
	var out strings.Builder
	for fed := 0; !p.Done(); {
		fed += p.Feed(text[fed:])
		if fed == len(text) {
			p.End()
		}
		p.Step(budget)
		held = max(held, p.Held())
		out.WriteString(p.Take(greatest))
	}
	return out.String(), held
}

// 23.5, 23.7: texts of several blocks as long as may be, held against the stream, and read by another decoder of the format.
func TestLong(t *testing.T) {
	random := rand.New(rand.NewSource(3))
	noise := make([]byte, 250000)
	for i := range noise {
		noise[i] = byte(random.Intn(256))
	}
	for i, c := range []struct {
		level, budget int
		text          string
	}{{1, 100003, string(noise)}, {2, greatest, strings.Repeat("abracadabra ", 40000)}, {9, 1009, like('a', 3000000)}, {9, greatest, strings.Repeat("ab", 500000)}} {
		got, held := pressed(c.level, 100000, 1<<20, c.budget, c.text)
		if need, _ := press.Need(c.level, 100000, 1<<20); held > need {
			t.Errorf("%d: %d held", i, held)
		}
		if want, _ := stream.Encode(c.level, c.text); got != want {
			t.Errorf("%d: the stream has %d bytes, not %d", i, len(got), len(want))
		}
		text, e := io.ReadAll(bzip2.NewReader(strings.NewReader(got)))
		if e != nil || string(text) != c.text {
			t.Errorf("%d: %d bytes, %v", i, len(text), e)
		}
	}
}

// 23.7: as much as a press keeps at most, by least windows and rooms.
func TestHeld(t *testing.T) {
	random := rand.New(rand.NewSource(4))
	for range 300 {
		text := make([]byte, 500)
		for i := range text {
			text[i] = byte(random.Intn(256))
		}
		level, unit := 1+random.Intn(9), 24+random.Intn(20)
		if _, held := pressed(level, unit, 64, 1, string(text)); held > 64+8*(level*unit-19)+12000+3*(level*unit-19)+1024 {
			t.Errorf("%d, %d: %d held", level, unit, held)
		}
	}
}

// R6: presses side by side do not change one another.
func TestSideBySide(t *testing.T) {
	random := rand.New(rand.NewSource(5))
	var all []*watched
	for range 9 {
		all = append(all, watch(t, 1+random.Intn(3), 24, 64, someText(random, 300)))
	}
	for range 4000 {
		w := all[random.Intn(len(all))]
		w.feed(random.Intn(30))
		w.end()
		w.step(random.Intn(50))
		w.take(random.Intn(30))
	}
	for _, w := range all {
		w.goOn(always(64), always(greatest), always(greatest))
	}
}

// Of nil: 0, true (Stopped), empty, false, ErrState; and so of a press that New did not make.
func TestNil(t *testing.T) {
	for _, p := range []*press.Press{nil, {}} {
		for range 2 {
			for _, n := range []int{1, 100, greatest, 0, -1, least} {
				if p.Step(n) != 0 || p.Take(n) != "" {
					t.Errorf("Step, Take(%d)", n)
				}
			}
			if p.Feed("abc") != 0 || p.Feed("") != 0 || p.End() != api.ErrState {
				t.Error("Feed, End")
			}
			if !p.Stopped() || p.Waiting() != 0 || p.Done() || p.Steps() != 0 || p.Held() != 0 {
				t.Errorf("%v, %d, %v, %d, %d", p.Stopped(), p.Waiting(), p.Done(), p.Steps(), p.Held())
			}
		}
	}
}
