package tester_test

import (
	"encoding/hex"
	"math/rand"
	"strconv"
	"strings"
	"testing"

	"baler/api"
	"baler/crc"
	"baler/stream"
	"baler/tester"
	"baler/unpress"
	"baler/unstream"
)

// 25.1, 25.2: what may be, and what may not; and how much is kept at most.
func TestNew(t *testing.T) {
	units := map[int]bool{24: true, 25: true, 99999: true, 100000: true, 23: false, 100001: false, 0: false, -24: false, 1<<32 + 24: false, least: false, greatest: false}
	windows := map[int]bool{64: true, 65: true, 1<<20 - 1: true, 1 << 20: true, 63: false, 1<<20 + 1: false, 0: false, -64: false, 1<<32 + 64: false, least: false, greatest: false}
	for unit, isUnit := range units {
		for window, isWindow := range windows {
			x, e := tester.New(unit, window)
			need, f := tester.Need(unit, window)
			if !isUnit || !isWindow {
				if x != nil || e != api.ErrArg || need != 0 || f != api.ErrArg {
					t.Errorf("%d, %d: New %v, %v; Need %d, %v", unit, window, x != nil, e, need, f)
				}
				continue
			}
			if x == nil || e != api.OK || need != window+4096+4*9*unit+40960+32 || f != api.OK {
				t.Errorf("%d, %d: New %v, %v; Need %d, %v", unit, window, x != nil, e, need, f)
			}
			if x.Stopped() || x.Done() || x.Waiting() != 0 || x.Held() != 0 || x.Steps() != 0 || x.Count() != 0 || x.Err() != api.OK {
				t.Errorf("%d, %d: %v, %v, %d wait, %d held", unit, window, x.Stopped(), x.Done(), x.Waiting(), x.Held())
			}
		}
	}
}

// 25.2: the chapter's reckoning by hand.
func TestNeed(t *testing.T) {
	for _, c := range [][3]int{{24, 64, 46016}, {25, 100, 46088}, {100000, 1 << 20, 1048576 + 4096 + 3600000 + 40992}} {
		if n, e := tester.Need(c[0], c[1]); n != c[2] || e != api.OK {
			t.Errorf("Need(%d, %d): %d, %v, not %d", c[0], c[1], n, e, c[2])
		}
	}
}

// 25.3: digits, without noughts ahead; of a number below 0 those of 0.
func TestDigits(t *testing.T) {
	for n, want := range map[int]string{
		0: "0", 1: "1", 9: "9", 10: "10", 11: "11", 99: "99", 100: "100", 101: "101", 909: "909", 1000: "1000", 65536: "65536", 1<<31 - 1: "2147483647", 1 << 31: "2147483648", 1 << 40: "1099511627776",
		1e18: "1" + like('0', 18), 1e18 - 1: like('9', 18), greatest: "9223372036854775807", -1: "0", -10: "0", -1 << 40: "0", least: "0", least + 1: "0",
	} {
		if s := tester.Digits(n); s != want {
			t.Errorf("Digits(%d): %q, not %q", n, s, want)
		}
	}
	random := rand.New(rand.NewSource(1))
	for range 1000 {
		n := random.Int() >> random.Intn(63)
		if s := tester.Digits(n); s != strconv.Itoa(n) {
			t.Errorf("Digits(%d): %q", n, s)
		}
	}
}

// The streams of the document's examples.
const (
	empty = "BZh9\x17rE8P\x90\x00\x00\x00\x00"
	one   = "BZh91AY&SY\x19\x93\x9b\x6b\x00\x00\x00\x01\x00\x20\x00\x20\x00\x21\x18\x46\x82\xee\x48\xa7\x0a\x12\x03\x32\x73\x6d\x60"
)

// 25.1, 25.2, 25.4: the examples: nothing, a, abc, and some that are longer.
func TestExamples(t *testing.T) {
	for s, want := range map[string]string{
		empty: "0", one: "1", encoded(1, 24, "abc"): "3", encoded(9, 100000, like('z', 1234567)): "1234567", encoded(2, 24, mixed(10)) + empty + one: "11", encoded(1, 24, mixed(100)): "100",
	} {
		x, _ := tester.New(100000, 1000)
		for fed := 0; fed < len(s); {
			fed += x.Feed(s[fed:])
			x.Step(greatest)
		}
		if x.Waiting() != 0 || x.Take(9) != "" || x.Done() {
			t.Errorf("ahead of the end: %d wait, done %v", x.Waiting(), x.Done())
		}
		if x.End() != api.OK || x.Waiting() != 0 || x.Step(greatest) != 1 {
			t.Error("End")
		}
		if !x.Done() || x.Err() != api.OK || x.Waiting() != len(want) || x.Held() != len(want) || x.Take(100) != want || x.Waiting() != 0 || x.Held() != 0 {
			t.Errorf("%x: not %s, %v", short(s), want, x.Err())
		}
	}
}

// 25.1: the steps are those of an expander: of the empty text four letters, the magic, the sum, the end.
func TestSteps(t *testing.T) {
	w := watch(t, 100000, 64, empty)
	w.feed(14)
	for range 6 {
		w.step(1)
	}
	if w.x.Steps() != 6 || w.x.Stopped() {
		t.Fatalf("%d steps, stopped %v", w.x.Steps(), w.x.Stopped())
	}
	w.step(1)
	if w.x.Steps() != 6 || !w.x.Stopped() {
		t.Fatalf("%d steps, stopped %v", w.x.Steps(), w.x.Stopped())
	}
	w.end()
	w.step(greatest)
	if w.x.Steps() != 7 || !w.x.Done() {
		t.Fatalf("%d steps, done %v", w.x.Steps(), w.x.Done())
	}
	w.take(1)
	w.over()
}

// 25.1: bytes are counted as soon as as many wait as 4096, and more: what a step tells is counted as a whole.
func TestCount(t *testing.T) {
	for _, c := range []struct {
		text   string
		counts []int // what Count tells, one behind the other
	}{
		{mixed(4095), []int{4095}}, {mixed(4096), []int{4096}}, {mixed(4097), []int{4096, 4097}}, {mixed(9000), []int{4096, 8192, 9000}},
		{mixed(4092) + like(0, 255), []int{4096, 4347}}, {mixed(4091) + like(0, 255), []int{4346}}, {mixed(4090) + like(0, 255) + mixed(4096), []int{4345, 8441}},
	} {
		s := encoded(1, 10000, c.text)
		w := watch(t, 10000, 1<<20, s)
		w.feed(len(s))
		w.end()
		var counts []int
		for was := 0; !w.x.Done(); was = w.x.Count() {
			w.step(1)
			if n := w.x.Count(); n != was {
				counts = append(counts, n)
			}
		}
		w.take(10)
		w.over()
		if len(counts) != len(c.counts) {
			t.Errorf("%d bytes: %v, not %v", len(c.text), counts, c.counts)
			continue
		}
		for i, n := range counts {
			if n != c.counts[i] {
				t.Errorf("%d bytes: %v, not %v", len(c.text), counts, c.counts)
			}
		}
	}
}

// 25.1: it is never stopped by what waits, neither within a block nor between blocks and streams.
func TestNeverStopped(t *testing.T) {
	for _, text := range []string{mixed(4096), mixed(4097), mixed(50000), like('x', 5000) + "y", like('x', 100000)} {
		for _, unit := range []int{500, 4115, 100000} {
			s := encoded(1, unit, text) + encoded(9, unit, text)
			w := watch(t, unit, 1<<20, s)
			w.feed(len(s))
			w.end()
			w.step(greatest)
			if !w.x.Done() || w.x.Count() != 2*len(text) {
				t.Fatalf("%d bytes by %d: done %v, %d", len(text), unit, w.x.Done(), w.x.Count())
			}
			w.take(greatest)
			w.over()
		}
	}
}

// 25.2: taking: none of a most below 1; as many as most, or as there are.
func TestTake(t *testing.T) {
	w := watch(t, 24, 64, encoded(9, 24, like('a', 123456)))
	for !w.x.Done() {
		w.take(greatest)
		w.feed(64)
		w.end()
		w.step(1000)
	}
	for _, most := range []int{0, -1, least, 1, 2, 0, -3, 1, greatest, 1} {
		w.take(most)
	}
	w.over()
	if w.taken != "123456" {
		t.Errorf("%q", w.taken)
	}
}

// 25.1, 25.2: what fails gives no answer, but has counted what was told.
func TestFail(t *testing.T) {
	first := encoded(1, 24, "abcabc")
	sum, _ := stream.New(1)
	sum.Block("abcde", crc.Of("abcdf"))
	sum.End()
	run, _ := stream.New(1)
	run.Block("aaaa\xfc", 0)
	run.End()
	for _, c := range []struct {
		s     string
		want  api.Errno
		count int
	}{
		{"", api.ErrEnd, 0}, {"BZh", api.ErrEnd, 0}, {"BZx", api.ErrMagic, 0}, {first + "x", api.ErrMagic, 6}, {first + "B", api.ErrEnd, 6}, {first[:len(first)-1], api.ErrEnd, 6}, {turned(first, 8*len(first)-20), api.ErrCRC, 6},
		{first + sum.Take() + first, api.ErrCRC, 11}, {run.Take() + first, api.ErrData, 4}, {encoded(1, 10000, mixed(5000)) + "y", api.ErrMagic, 5000},
	} {
		w := watch(t, 10000, 1<<20, c.s)
		w.feed(len(c.s))
		w.end()
		w.step(greatest)
		if w.x.Err() != c.want || w.x.Count() != c.count || w.x.Waiting() != 0 || w.x.Take(9) != "" {
			t.Errorf("%x: %v, %d, %d wait", short(c.s), w.x.Err(), w.x.Count(), w.x.Waiting())
		}
		w.over()
	}
}

// 25.1: End is refused behind the end, and bytes too; also when it is done.
func TestEnd(t *testing.T) {
	for _, s := range []string{empty, "x", one} {
		x, _ := tester.New(24, 64)
		x.Feed(s)
		if s == "x" {
			x.Step(1)
		}
		if x.End() != api.OK || x.End() != api.ErrState || x.Feed("a") != 0 {
			t.Errorf("%x: End, Feed", s)
		}
		x.Step(greatest)
		if !x.Done() || x.End() != api.ErrState || x.Feed("a") != 0 || x.Step(1) != 0 {
			t.Errorf("%x: done %v", s, x.Done())
		}
	}
}

// 25.1: steps below 1 are none.
func TestNoBudget(t *testing.T) {
	w := watch(t, 24, 64, encoded(1, 24, "abcabcddddd")+empty)
	for !w.x.Done() {
		w.feed(2)
		w.end()
		for _, budget := range []int{0, -1, -5, least} {
			w.step(budget)
		}
		w.step(1)
	}
	w.take(3)
	w.over()
}

// 25.5: one cut of the steps, wherever it may be; and of the input, too.
func TestCutEverywhere(t *testing.T) {
	s := encoded(1, 24, "aaaaaabc") + encoded(2, 24, "bc")
	w := watch(t, 24, 1000, s)
	w.goOn(always(1000), always(greatest), always(greatest))
	for cut := range w.x.Steps() + 1 {
		again := watch(t, 24, 1000, s)
		again.feed(1000)
		again.end()
		again.step(cut)
		again.goOn(always(0), always(greatest), always(1))
		if again.x.Steps() != w.x.Steps() {
			t.Errorf("cut at %d: %d steps", cut, again.x.Steps())
		}
	}
	for cut := range len(s) + 1 {
		again := watch(t, 24, 1000, s)
		again.feed(cut)
		again.step(greatest)
		again.goOn(always(1000), always(3), always(greatest))
	}
}

// 25.4: streams cut at each byte, and each bit turned.
func TestBroken(t *testing.T) {
	first, second := encoded(1, 24, "abcabc"), encoded(1, 24, "dddddd")
	s := first + second
	for n := range len(s) + 1 {
		w := watch(t, 24, 64, s[:n])
		w.goOn(always(40), always(9), always(1))
		if whole := n == len(first) || n == len(s); whole != (w.taken != "") {
			t.Errorf("%d bytes: %q", n, w.taken)
		}
	}
	for i := range 8 * len(s) {
		watch(t, 24, 64, turned(s, i)).goOn(always(30), always(50), always(greatest))
	}
}

// someStreams are streams of texts, one behind the other, with something wrong at times.
func someStreams(random *rand.Rand, unit int) string {
	s := ""
	for range 1 + random.Intn(3) {
		s += encoded(1+random.Intn(9), unit, someText(random, 1+random.Intn(300)))
	}
	switch random.Intn(6) {
	case 0:
		return s[:random.Intn(len(s)+1)]
	case 1:
		return turned(s, random.Intn(8*len(s)))
	case 2:
		return s + someText(random, 50)
	case 3:
		at := random.Intn(len(s))
		return s[:at] + someText(random, 9) + s[at:]
	}
	return s
}

// 25.1, 25.2, 25.4 and 25.5: streams of all kinds, cut in all ways.
func TestMany(t *testing.T) {
	random := rand.New(rand.NewSource(2))
	times := map[api.Errno]int{}
	for range 1000 {
		unit := 24 + random.Intn(1+random.Intn(50))
		s := someStreams(random, unit)
		size := func() func() int { return upTo(random, 1+random.Intn(1<<random.Intn(12))) }
		w := watch(t, unit, 64+random.Intn(1+random.Intn(900)), s)
		w.goOn(size(), size(), size())
		times[w.x.Err()]++
		again := watch(t, unit, 1<<20, s)
		again.goOn(always(1<<20), always(greatest), always(greatest))
		if w.x.Steps() != again.x.Steps() || w.taken != again.taken || w.x.Count() != again.x.Count() {
			w.fatal("all steps", w.x.Steps(), again.x.Steps())
		}
	}
	for _, e := range []api.Errno{api.OK, api.ErrMagic, api.ErrCRC, api.ErrTable, api.ErrEnd, api.ErrData} {
		if times[e] < 10 {
			t.Errorf("too few of %v: %v", e, times)
		}
	}
}

// tested is what is taken of a tester of streams, with which error it failed, and how much it held at most.
func tested(unit, window, budget int, s string) (string, api.Errno, int) {
	x, _ := tester.New(unit, window)
	held := 0
	out := ""
	for fed := 0; !x.Done(); {
		fed += x.Feed(s[fed:])
		if fed == len(s) {
			x.End()
		}
		x.Step(budget)
		held = max(held, x.Held())
		out += x.Take(greatest)
	}
	return out, x.Err(), held
}

// 25.4, 25.5: texts of several blocks as long as may be, and blocks that stand for more than their own bytes.
func TestLong(t *testing.T) {
	noise := make([]byte, 950000)
	rand.New(rand.NewSource(3)).Read(noise)
	for i, c := range []struct {
		level int
		text  string
	}{{1, string(noise[:250000])}, {9, string(noise)}, {2, strings.Repeat("abracadabra ", 40000)}, {9, like('a', 10000000)}} {
		s, _ := stream.Encode(c.level, c.text)
		for _, cut := range [][2]int{{64, greatest}, {4096, 1009}, {1 << 20, greatest}} {
			answer, e, held := tested(100000, cut[0], cut[1], s)
			if need, _ := tester.Need(100000, cut[0]); answer != strconv.Itoa(len(c.text)) || e != api.OK || held > need {
				t.Errorf("%d: %q, %v, %d held", i, answer, e, held)
			}
		}
		if answer, e, _ := tested(100000, 64, greatest, s[:len(s)-1]); answer != "" || e != api.ErrEnd {
			t.Errorf("%d: %q, %v", i, answer, e)
		}
	}
}

// 25.4: streams that the format's own library wrote.
func TestOfOthers(t *testing.T) {
	for want, s := range map[string]string{
		"20": "425a6839314159265359cb52e5670000055100001040040244a00021243108602f1844c715178bb9229c284865a972b380", "1060": "425a6831314159265359b96e5ea800001f8181b800004000800008200020a947a0300cb21f2291b2e870bb9229c28485cb72f540",
		"6000000": "425a68313141592653597eb243c4000d04c000c0000008200020a40834a82a312a0a8e6282b24ca6b2cb59b770000dcc8201800004000010400061981354d351426d48a13c5dc914e14242632170c0",
	} {
		out, _ := hex.DecodeString(s)
		if got, e, _ := tested(100000, 64, 1000, string(out)); got != want || e != api.OK {
			t.Errorf("%q, %v, not %s", got, e, want)
		}
	}
}

// 25.5: as much as a tester keeps at most: a block as long as may be, behind bytes that wait to be counted.
func TestHeld(t *testing.T) {
	text := make([]byte, 9*24)
	for i := range text {
		text[i] = byte(i)
	}
	b, _ := stream.New(9)
	b.Turned(string(text), 7, 1)
	for _, window := range []int{64, 1000, 1 << 20} {
		s := encoded(1, 24, like('x', 4000)) + b.Take() + like(0, 1000)
		_, e, held := tested(24, window, 1, s)
		if held > window+4096+864+40960+32 || e == api.OK {
			t.Errorf("%d held, %v", held, e)
		}
	}
}

// R6: testers side by side do not change one another, nor an expander.
func TestSideBySide(t *testing.T) {
	random := rand.New(rand.NewSource(4))
	var all []*watched
	for range 9 {
		all = append(all, watch(t, 24, 64, someStreams(random, 24)))
	}
	for range 4000 {
		w := all[random.Intn(len(all))]
		w.feed(random.Intn(30))
		if w.x.Err() == api.OK && !w.x.Done() {
			w.end()
		}
		w.step(random.Intn(50))
		w.take(random.Intn(3))
	}
	for _, w := range all {
		w.goOn(always(64), always(greatest), always(greatest))
	}
}

// R6: what is told beside a tester of the same bytes is told again.
func TestAgain(t *testing.T) {
	s := encoded(3, 24, mixed(300))
	text, _ := unstream.With(24, s)
	x, _ := unpress.New(24, 64, 4096)
	for fed := 0; fed < len(s); {
		fed += x.Feed(s[fed:])
		x.Step(greatest)
	}
	for range 3 {
		if answer, e, _ := tested(24, 64, 7, s); answer != "300" || e != api.OK {
			t.Errorf("%q, %v", answer, e)
		}
	}
	if x.Take(greatest) != text {
		t.Error("the expander's text")
	}
}

// Of nil: 0, true (Stopped), empty, false, OK, and ErrState of End; and so of a tester that New did not make.
func TestNil(t *testing.T) {
	for _, x := range []*tester.Tester{nil, {}} {
		for range 2 {
			for _, n := range []int{1, 100, greatest, 0, -1, least} {
				if x.Step(n) != 0 || x.Take(n) != "" {
					t.Errorf("Step, Take(%d)", n)
				}
			}
			if x.Feed(empty) != 0 || x.Feed("") != 0 || x.End() != api.ErrState {
				t.Error("Feed, End")
			}
			if !x.Stopped() || x.Waiting() != 0 || x.Done() || x.Err() != api.OK || x.Count() != 0 || x.Steps() != 0 || x.Held() != 0 {
				t.Errorf("%v, %d, %v, %v, %d, %d", x.Stopped(), x.Waiting(), x.Done(), x.Err(), x.Steps(), x.Held())
			}
		}
	}
}
