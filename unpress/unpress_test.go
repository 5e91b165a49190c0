package unpress_test

import (
	"encoding/hex"
	"math/rand"
	"strings"
	"testing"

	"baler/api"
	"baler/bits"
	"baler/block"
	"baler/crc"
	"baler/stream"
	"baler/unpress"
	"baler/unstream"
)

// 24.1, 24.4: what may be, and what may not; and how much is kept at most.
func TestNew(t *testing.T) {
	units := map[int]bool{24: true, 25: true, 99999: true, 100000: true, 23: false, 100001: false, 0: false, -24: false, 1<<32 + 24: false, least: false, greatest: false}
	windows := map[int]bool{64: true, 65: true, 1<<20 - 1: true, 1 << 20: true, 63: false, 1<<20 + 1: false, 0: false, -64: false, 1<<32 + 64: false, least: false, greatest: false}
	limits := map[int]bool{1: true, 2: true, 65535: true, 65536: true, 0: false, -1: false, 65537: false, 1<<32 + 1: false, least: false, greatest: false}
	for unit, isUnit := range units {
		for window, isWindow := range windows {
			for limit, isLimit := range limits {
				x, e := unpress.New(unit, window, limit)
				need, f := unpress.Need(unit, window, limit)
				if !isUnit || !isWindow || !isLimit {
					if x != nil || e != api.ErrArg || need != 0 || f != api.ErrArg {
						t.Errorf("%d, %d, %d: New %v, %v; Need %d, %v", unit, window, limit, x != nil, e, need, f)
					}
					continue
				}
				if x == nil || e != api.OK || need != window+limit+4*9*unit+40960 || f != api.OK {
					t.Errorf("%d, %d, %d: New %v, %v; Need %d, %v", unit, window, limit, x != nil, e, need, f)
				}
				if x.Stopped() || x.Done() || x.Waiting() != 0 || x.Held() != 0 || x.Steps() != 0 || x.Err() != api.OK {
					t.Errorf("%d, %d, %d: %v, %v, %d wait, %d held", unit, window, limit, x.Stopped(), x.Done(), x.Waiting(), x.Held())
				}
			}
		}
	}
}

// 24.4: the chapter's reckoning by hand.
func TestNeed(t *testing.T) {
	for _, c := range [][4]int{{24, 64, 1, 41889}, {25, 65, 2, 65 + 2 + 900 + 40960}, {100000, 1 << 20, 1 << 16, 1048576 + 65536 + 3600000 + 40960}} {
		if n, e := unpress.Need(c[0], c[1], c[2]); n != c[3] || e != api.OK {
			t.Errorf("Need(%d, %d, %d): %d, %v, not %d", c[0], c[1], c[2], n, e, c[3])
		}
	}
}

// The streams of the document's examples.
const (
	empty = "BZh9\x17rE8P\x90\x00\x00\x00\x00"
	one   = "BZh91AY&SY\x19\x93\x9b\x6b\x00\x00\x00\x01\x00\x20\x00\x20\x00\x21\x18\x46\x82\xee\x48\xa7\x0a\x12\x03\x32\x73\x6d\x60"
)

// 24.2: the example: four letters, the magic, the sum, and one more step with which it ends.
func TestEmpty(t *testing.T) {
	x, _ := unpress.New(100000, 64, 4096)
	if n := x.Feed(empty); n != 14 || x.Held() != 14 {
		t.Fatalf("Feed: %d, %d held", n, x.Held())
	}
	for i, held := range []int{13, 12, 11, 10, 4, 0} {
		if n := x.Step(1); n != 1 || x.Steps() != i+1 || x.Held() != held || x.Stopped() || x.Done() {
			t.Fatalf("step %d: %d, %d held, stopped %v, done %v", i, n, x.Held(), x.Stopped(), x.Done())
		}
	}
	if n := x.Step(1); n != 0 || !x.Stopped() || x.Done() || x.Steps() != 6 {
		t.Fatalf("no step: %d, stopped %v, done %v", n, x.Stopped(), x.Done())
	}
	if e := x.End(); e != api.OK || x.Stopped() || x.Done() {
		t.Fatalf("End: %v, stopped %v, done %v", e, x.Stopped(), x.Done())
	}
	if n := x.Step(100); n != 1 || !x.Stopped() || !x.Done() || x.Steps() != 7 || x.Err() != api.OK {
		t.Fatalf("the end: %d, stopped %v, done %v, %v", n, x.Stopped(), x.Done(), x.Err())
	}
	y, _ := unpress.New(100000, 64, 4096)
	y.Feed(empty)
	y.End()
	if n := y.Step(100); n != 7 || !y.Done() || y.Err() != api.OK || y.Waiting() != 0 {
		t.Fatalf("all at once: %d, done %v, %v", n, y.Done(), y.Err())
	}
}

// 24.2: the stream of a, step by step: its block is opened by three steps, of which the last one tells it.
func TestOneByte(t *testing.T) {
	x, _ := unpress.New(100000, 64, 1)
	x.Feed(one)
	u, _ := unstream.New(100000)
	r := bits.NewReader(one)
	read := 0
	for what := unstream.Nothing; what != unstream.Block; read++ {
		what, _ = u.Step(r)
	}
	left := len(one) - r.At()/8
	if n := x.Step(read); n != read || x.Waiting() != 0 || x.Held() != left+2 {
		t.Fatalf("reading: %d, %d wait, %d held", n, x.Waiting(), x.Held())
	}
	for i, waiting := range []int{0, 0, 1} {
		held := left + 2
		if i == 2 {
			held = left + 1
		}
		if n := x.Step(1); n != 1 || x.Waiting() != waiting || x.Held() != held {
			t.Fatalf("opening, step %d: %d, %d wait, %d held", i, n, x.Waiting(), x.Held())
		}
	}
	// What waits keeps back steps of an inverter alone.
	if n := x.Step(100); n != 2 || x.Waiting() != 1 || !x.Stopped() || x.Done() {
		t.Fatalf("the end: %d, %d wait, stopped %v, done %v", n, x.Waiting(), x.Stopped(), x.Done())
	}
	x.End()
	if n := x.Step(100); n != 1 || !x.Done() || x.Err() != api.OK || x.Waiting() != 1 || x.Held() != 1 || x.Take(2) != "a" || x.Held() != 0 {
		t.Fatalf("behind the end: %d, done %v, %v, %d held", n, x.Done(), x.Err(), x.Held())
	}
}

// 24.1: as many bytes are fed as the window has room for beside those that were not forgotten.
func TestFeed(t *testing.T) {
	s := encoded(1, 24, strings.Repeat("abcde", 100))
	for _, window := range []int{64, 65, 100, 1000} {
		w := watch(t, 24, window, 1, s)
		w.feed(0)
		w.feed(window - 1)
		w.feed(2)
		w.feed(1)
		w.step(3)
		w.feed(2)
		w.feed(5)
		w.step(15)
		w.feed(greatest)
		w.goOn(always(7), always(11), always(3))
	}
}

// 24.1: as many bytes as may wait at most.
func TestWidestWindow(t *testing.T) {
	x, _ := unpress.New(24, 1<<20, 1)
	s := strings.Repeat(empty, 1<<20/14+1)
	if n := x.Feed(s[:1<<20-1]); n != 1<<20-1 {
		t.Errorf("Feed: %d", n)
	}
	if n := x.Feed(s[1<<20-1:]); n != 1 || x.Feed("a") != 0 || x.Held() != 1<<20 {
		t.Errorf("Feed: %d, and %d held", n, x.Held())
	}
	if n := x.Step(5); n != 5 || x.Held() != 1<<20-10 || x.Feed(s) != 10 {
		t.Errorf("Step: %d, and %d held", n, x.Held())
	}
}

// 24.2: what stops it for lack of bits: till bytes are fed, one at least, or the input ends.
func TestShort(t *testing.T) {
	x, _ := unpress.New(24, 64, 1)
	look := func(what string, stopped bool) {
		t.Helper()
		if x.Stopped() != stopped || x.Steps() != 0 || x.Held() != 0 {
			t.Fatalf("%s: stopped %v, %d steps, %d held", what, x.Stopped(), x.Steps(), x.Held())
		}
	}
	look("at first", false)
	for range 3 {
		if x.Step(0) != 0 || x.Step(-1) != 0 || x.Step(least) != 0 {
			t.Fatal("Step of none")
		}
		look("behind no step", false)
	}
	for range 3 {
		if n := x.Step(5); n != 0 {
			t.Fatalf("Step: %d", n)
		}
		look("behind a step", true)
		if n := x.Feed(""); n != 0 {
			t.Fatalf("Feed of nothing: %d", n)
		}
		look("behind nothing", true)
	}
	if n := x.Feed("B"); n != 1 || x.Stopped() {
		t.Fatalf("Feed: %d, stopped %v", n, x.Stopped())
	}
	if n := x.Step(1); n != 1 || x.Stopped() {
		t.Fatalf("Step: %d, stopped %v", n, x.Stopped())
	}
	if n := x.Step(1); n != 0 || !x.Stopped() || x.Steps() != 1 {
		t.Fatalf("Step: %d, stopped %v", n, x.Stopped())
	}
	if e := x.End(); e != api.OK || x.Stopped() || x.Done() {
		t.Fatalf("End: %v, stopped %v", e, x.Stopped())
	}
	if n := x.Step(1); n != 1 || !x.Stopped() || !x.Done() || x.Err() != api.ErrEnd || x.Steps() != 2 {
		t.Fatalf("Step: %d, stopped %v, %v", n, x.Stopped(), x.Err())
	}
}

// 24.2: the limit: the bytes that one step tells may go beyond it, and as many as it has keep a further one back.
func TestLimit(t *testing.T) {
	s := encoded(1, 300, strings.Repeat("ab", 5)+like('x', 255)+"cd"+like('y', 300)+"e")
	for limit := 1; limit < 600; limit++ {
		w := watch(t, 300, 1000, limit, s)
		w.feed(1000)
		w.end()
		most := 0
		for !w.x.Done() {
			w.step(greatest)
			most = max(most, w.want.told)
			if !w.x.Done() && w.want.told < limit {
				t.Fatalf("by %d: %d wait", limit, w.want.told)
			}
			if most > limit+250 {
				t.Fatalf("by %d: %d wait", limit, most)
			}
			w.take(1)
		}
		w.over()
	}
}

// 24.2: what waits does not keep the reader back, and not the end.
func TestLimitReader(t *testing.T) {
	s := encoded(1, 24, "ab") + encoded(2, 24, "") + encoded(2, 24, "c")
	w := watch(t, 24, 1000, 2, s)
	w.feed(1000)
	w.end()
	w.step(greatest)
	if w.want.told != 2 || w.want.done || !w.x.Stopped() {
		t.Fatalf("%d wait", w.want.told)
	}
	w.take(1)
	w.step(greatest)
	if w.want.told != 2 || !w.want.done {
		t.Fatalf("%d wait", w.want.told)
	}
	w.take(2)
	w.over()
}

// 24.3: taking: none of a most below 1; as many as most, or as there are; also behind a failure.
func TestTake(t *testing.T) {
	w := watch(t, 24, 1000, 100, encoded(1, 24, "banana bandana")+"x")
	w.feed(1000)
	w.step(greatest)
	if w.x.Err() != api.ErrMagic || w.x.Waiting() != 14 {
		t.Fatalf("%v, %d wait", w.x.Err(), w.x.Waiting())
	}
	for _, most := range []int{0, -1, least, 1, 2, 0, 3, greatest, 1} {
		w.take(most)
	}
	w.over()
}

// 24.3: what was taken stays as it is, whatever is told behind it (R3).
func TestTakeApart(t *testing.T) {
	x, _ := unpress.New(24, 1000, 3)
	x.Feed(encoded(9, 24, "abcdefghijklmnop"))
	var all []string
	for range 6 {
		x.Step(greatest)
		all = append(all, x.Take(2), x.Take(2))
	}
	if strings.Join(all, "") != "abcdefghijklmnop" {
		t.Errorf("%q", all)
	}
}

// opened is a block of a body and a sum as a stream.
func opened(level int, blocks ...[2]string) string {
	w, _ := stream.New(level)
	for _, b := range blocks {
		w.Block(b[0], crc.Of(b[1]))
	}
	w.End()
	return w.Take()
}

// 24.2: blocks that can't be opened: a count that is refused, one that lacks at the end, another sum; of these the first one that is met.
func TestFailOpening(t *testing.T) {
	good := [2]string{"abc", "abc"}
	for _, c := range []struct {
		body, text string
		want       api.Errno
		told       string // what is told ahead of it, and with it
	}{
		{"aaaa\xfc", "", api.ErrData, "aaaa"}, {"aaaa\xffbcd", "", api.ErrData, "aaaa"}, {"aaaa\x01bbbb\xfccccc", "x", api.ErrData, "aaaaabbbb"}, {"aaaa", "aaaa", api.ErrData, "aaaa"}, {"aaaa\x00bbbb", "x", api.ErrData, "aaaabbbb"},
		{"abc", "abd", api.ErrCRC, "abc"}, {"aaaa\xfb", "aaaa", api.ErrCRC, like('a', 255)}, {"a", "", api.ErrCRC, "a"}, {"aaaa\x01", "aaaa\x01", api.ErrCRC, "aaaaa"},
		{"aaaa\xfb", like('a', 255), api.OK, like('a', 255)}, {"aaaa\x00", "aaaa", api.OK, "aaaa"}, {"bbbbb\x00", "bbbbb", api.ErrCRC, "bbbb" + like('b', 98) + "\x00"},
	} {
		bad := [2]string{c.body, c.text}
		for _, s := range []string{opened(1, bad), opened(1, good, bad), opened(2, bad, good), opened(9, bad, bad), opened(1, good) + opened(1, bad)} {
			for _, limit := range []int{1, 3, 1000} {
				watch(t, 24, 1000, limit, s).goOn(always(1000), always(greatest), always(greatest))
				watch(t, 24, 64, limit, s).goOn(always(3), always(1), always(1))
			}
			w := watch(t, 24, 1000, 1000, s)
			w.feed(1000)
			w.step(greatest)
			w.end()
			w.step(greatest)
			if text := string(w.want.text); w.x.Err() != c.want || c.want != api.OK && strings.TrimPrefix(text, "abc") != c.told && text != c.told {
				t.Errorf("%q: %v, %q", c.body, w.x.Err(), text)
			}
			w.take(greatest)
			w.over()
		}
	}
}

// 24.2: nothing of a block is left for the next one: neither its sum nor its row of like bytes.
func TestBlocksApart(t *testing.T) {
	s := opened(1, [2]string{"aaa", "aaa"}, [2]string{"aaa", "aaa"}, [2]string{"aaaa\x01", "aaaaa"}, [2]string{"aab", "aab"})
	for _, window := range []int{64, 1000} {
		w := watch(t, 24, window, 1000, s+s)
		w.goOn(always(50), always(100), always(7))
		if string(w.want.text) != strings.Repeat("aaaaaaaaaaaaab", 2) {
			t.Errorf("%q", w.want.text)
		}
	}
}

// 24.2: streams that fail by what is read; and what is behind plays no part.
func TestFailReading(t *testing.T) {
	for s, want := range map[string]api.Errno{
		"x": api.ErrMagic, "BY": api.ErrMagic, "BZ0": api.ErrMagic, "BZh0": api.ErrMagic, "BZh:": api.ErrMagic, "BZh1xxxxxx": api.ErrMagic, empty + "\x00": api.ErrMagic, one + "BZH": api.ErrMagic,
		empty[:13] + "\x01": api.ErrCRC, one + empty[:10] + "\x80\x00\x00\x00": api.ErrCRC, one[:14] + "\x80\x00\x00\x00": api.ErrData, one[:14] + "\x00\x00\x00\x00\x00\x00": api.ErrData,
		turned(one, 14*8+24): api.ErrOrig,
	} {
		for _, behind := range []string{"", "x", one, like(0, 1000)} {
			w := watch(t, 100000, 64, 10, s+behind)
			w.goOn(always(10), always(10), always(10))
			if w.x.Err() != want {
				t.Errorf("%x: %v, not %v", s, w.x.Err(), want)
			}
			if n := w.x.Feed("abc"); n != 0 {
				t.Errorf("Feed behind a failure: %d", n)
			}
		}
	}
}

// 24.2: streams cut at each byte: only where one ends the input may end.
func TestCutStreams(t *testing.T) {
	first, second, third := encoded(1, 24, "hello, hello, hello"), encoded(2, 24, ""), encoded(3, 24, "bye")
	s := first + second + third
	ends := map[int]bool{len(first): true, len(first + second): true, len(s): true}
	for n := range len(s) + 1 {
		want := api.ErrEnd
		if ends[n] {
			want = api.OK
		}
		for _, steps := range []int{1, 10, greatest} {
			w := watch(t, 24, 64, 5, s[:n])
			w.goOn(always(40), always(steps), always(9))
			if w.x.Err() != want {
				t.Errorf("%d bytes: %v, not %v", n, w.x.Err(), want)
			}
		}
	}
}

// 24.2 and 24.6: one cut of the steps, wherever it may be, with what was told taken there or not; and of the input, too.
func TestCutEverywhere(t *testing.T) {
	s := encoded(1, 24, "aaaaaabc") + encoded(2, 24, "bc")
	w := watch(t, 24, 1000, 1000, s)
	w.goOn(always(1000), always(greatest), always(greatest))
	for cut := range w.want.steps + 1 {
		for _, most := range []int{0, 1, greatest} {
			w := watch(t, 24, 1000, 1000, s)
			w.feed(1000)
			w.end()
			w.step(cut)
			w.take(most)
			w.goOn(always(0), always(greatest), always(greatest))
		}
	}
	for cut := range len(s) + 1 {
		for _, steps := range []int{1, greatest} {
			w := watch(t, 24, 1000, 1000, s)
			w.feed(cut)
			w.step(greatest)
			w.goOn(always(1000), always(steps), always(3))
		}
	}
}

// 24.2: steps below 1 are none, whatever is due.
func TestNoBudget(t *testing.T) {
	w := watch(t, 24, 64, 3, encoded(1, 24, "abcabcddddd")+empty)
	for !w.x.Done() {
		w.feed(2)
		w.end()
		for _, budget := range []int{0, -1, -5, least} {
			w.step(budget)
		}
		w.step(1)
		w.take(2)
	}
	w.over()
}

// someStreams are streams of texts, one behind the other, with something wrong at times.
func someStreams(random *rand.Rand, unit int) string {
	s := ""
	for range 1 + random.Intn(3) {
		s += encoded(1+random.Intn(9), unit, someText(random, 1+random.Intn(300)))
	}
	switch random.Intn(6) {
	case 0:
		return s[:random.Intn(len(s)+1)]
	case 1:
		return turned(s, random.Intn(8*len(s)))
	case 2:
		return s + someText(random, 50)
	case 3:
		at := random.Intn(len(s))
		return s[:at] + someText(random, 9) + s[at:]
	}
	return s
}

// 24.1, 24.2, 24.3, 24.5, 24.6 and 24.7: streams of all kinds, cut in all ways.
func TestMany(t *testing.T) {
	random := rand.New(rand.NewSource(1))
	times := map[api.Errno]int{}
	for range 1500 {
		unit := 24 + random.Intn(1+random.Intn(50))
		s := someStreams(random, unit)
		window, limit := 64+random.Intn(1+random.Intn(900)), 1+random.Intn(1<<random.Intn(10))
		size := func() func() int { return upTo(random, 1+random.Intn(1<<random.Intn(12))) }
		w := watch(t, unit, window, limit, s)
		w.goOn(size(), size(), size())
		times[w.x.Err()]++
		again := watch(t, unit, 1<<20, 1<<16, s)
		again.goOn(always(1<<20), always(greatest), always(greatest))
		if w.x.Steps() != again.x.Steps() {
			w.fatal("all steps", w.x.Steps(), again.x.Steps())
		}
	}
	for _, e := range []api.Errno{api.OK, api.ErrMagic, api.ErrCRC, api.ErrTable, api.ErrEnd, api.ErrData} {
		if times[e] < 15 {
			t.Errorf("too few of %v: %v", e, times)
		}
	}
}

// 24.5 and 24.6: each bit of a stream turned, by as little at a time as may be, and by all at once.
func TestTurned(t *testing.T) {
	s := encoded(1, 24, "abcabc") + encoded(1, 24, "dddddd")
	times := map[api.Errno]int{}
	for i := range 8 * len(s) {
		slow := watch(t, 24, 64, 1, turned(s, i))
		slow.goOn(always(1), always(1), always(1))
		fast := watch(t, 24, 1000, 1000, turned(s, i))
		fast.goOn(always(1000), always(greatest), always(greatest))
		if slow.x.Steps() != fast.x.Steps() {
			t.Errorf("bit %d: %d steps, and %d", i, slow.x.Steps(), fast.x.Steps())
		}
		times[fast.x.Err()]++
	}
	for _, e := range []api.Errno{api.ErrMagic, api.ErrCRC, api.ErrTable, api.ErrOrig, api.ErrData} {
		if times[e] < 3 {
			t.Errorf("too few of %v: %v", e, times)
		}
	}
}

// expanded is what is taken of an expander of streams, with which error it failed, and how much it held at most.
func expanded(unit, window, limit, budget int, s string) (string, api.Errno, int) {
	x, _ := unpress.New(unit, window, limit)
	held := 0
	var out strings.Builder
	for fed := 0; !x.Done(); {
		fed += x.Feed(s[fed:])
		if fed == len(s) {
			x.End()
		}
		x.Step(budget)
		held = max(held, x.Held())
		out.WriteString(x.Take(greatest))
	}
	return out.String(), x.Err(), held
}

// 24.5, 24.7: texts of several blocks as long as may be.
func TestLong(t *testing.T) {
	noise := make([]byte, 950000)
	rand.New(rand.NewSource(2)).Read(noise)
	for i, c := range []struct {
		level int
		text  string
	}{{1, string(noise[:250000])}, {9, string(noise)}, {2, strings.Repeat("abracadabra ", 40000)}, {9, like('a', 3000000)}} {
		s, _ := stream.Encode(c.level, c.text)
		for _, cut := range [][3]int{{64, 1, greatest}, {4096, 100, 1009}, {1 << 20, 1 << 16, greatest}} {
			text, e, held := expanded(100000, cut[0], cut[1], cut[2], s)
			if need, _ := unpress.Need(100000, cut[0], cut[1]); text != c.text || e != api.OK || held > need {
				t.Errorf("%d: %d bytes, %v, %d held", i, len(text), e, held)
			}
		}
	}
}

// 24.5: streams that the format's own library wrote.
func TestOfOthers(t *testing.T) {
	rising := ""
	for i := range 256 {
		rising += like(byte(i), 1)
	}
	all, texts := "", ""
	for text, s := range map[string]string{
		"":                      "425a683117724538509000000000",
		"hello, hello, hello\n": "425a6839314159265359cb52e5670000055100001040040244a00021243108602f1844c715178bb9229c284865a972b380",
		like('x', 1000) + strings.Repeat("abc", 20): "425a6831314159265359b96e5ea800001f8181b800004000800008200020a947a0300cb21f2291b2e870bb9229c28485cb72f540",
		like(0, 6000000): "425a68313141592653597eb243c4000d04c000c0000008200020a40834a82a312a0a8e6282b24ca6b2cb59b770000dcc8201800004000010400061981354d351426d48a13c5dc914e14242632170c0",
		rising:           "425a6835314159265359b6b5ee950000007fffffffffffffffffffffffffffffffffffffffffffffffffffffffffffffffffffb000c5520000000000000000000000000000000001300980000000000000000000004c0004c004980026000260000000000000000000000000000000000000000000000000000000024c001300013000000000000000000000000000000000000000000000000000000003f0080c1014181c2024282c3034383c4044484c5054585c6064686c7074787c8084888c9094989ca0a4a8acb0b4b8bcc0c4c8ccd0d4d8dce0e4e8ecf0f4f8fd0105090d1115191d2125292d3135393d4145494d5155595d6165696d7175797d8185898d9185898d9195999da1a5a9adb1b5b9bdc1c5c9cdd1d5d9dde1e5e9edf1f5f9fe02060a0e12161a1e22262a2e32363a3e42464a565a5e62666a6e72767a7e82868a8e92969a9ea2a6aaaeb2b6babec2c6caced2d6dadee2e6eaeef2f6faff03070b0f13171b171b1f23272b2f33373b3f43474b4f53575b5f63676b6f73777b7f83878b8f93979b9fa3a7abafb3b7bbbfc3c7cbcfd3d7dbdfe3e7ebeff3f45dc914e14242dad7ba54",
	} {
		out, _ := hex.DecodeString(s)
		all, texts = all+string(out), texts+text
		if got, e, _ := expanded(100000, 64, 4096, 1000, string(out)); got != text || e != api.OK {
			t.Errorf("%q: %q, %v", short(text), short(got), e)
		}
	}
	if got, e, _ := expanded(100000, 100, 100, greatest, all); got != texts || e != api.OK {
		t.Errorf("all: %d bytes, %v", len(got), e)
	}
}

// 24.7: as much as an expander keeps at most: a block as long as may be, with as many picks as may be, behind as much as may wait.
func TestHeld(t *testing.T) {
	text := make([]byte, 9*24)
	for i := range text {
		text[i] = byte(i)
	}
	w, _ := stream.New(9)
	w.Turned(string(text), 7, 1)
	for _, c := range [][2]int{{64, 1}, {64, 1 << 16}, {1 << 20, 300}} {
		s := encoded(1, 24, strings.Repeat("x", 255)) + w.Take() + like(0, 1000)
		_, e, held := expanded(24, c[0], c[1], 1, s)
		if need, _ := unpress.Need(24, c[0], c[1]); held > need || e == api.OK {
			t.Errorf("%d held, %v", held, e)
		}
	}
}

// 24.3: where as much is kept as a block's reader keeps at most: 32767 picks of which one is used, and tables.
func TestHeldPicks(t *testing.T) {
	w := bits.NewWriter()
	put := func(v uint32, n int) { w.Put(v, n) }
	for _, b := range []byte("BZh1") {
		put(uint32(b), 8)
	}
	put(block.Magic>>24, 24)
	put(block.Magic&(1<<24-1), 24)
	put(crc.Of("a"), 32)
	put(0, 25)
	put(1<<9, 16)
	put(1<<14, 16)
	put(2, 3)
	put(32767, 15)
	for range 32767 {
		put(0, 1)
	}
	for range 2 {
		put(1, 5) // 1 2 2
		put(0, 1)
		put(2, 2)
		put(0, 2)
	}
	put(0, 1) // RunA
	put(3, 2) // the end
	put(block.End>>24, 24)
	put(block.End&(1<<24-1), 24)
	put(crc.Of("a"), 32)
	w.Pad()
	x := watch(t, 24, 64, 1, w.Take())
	x.goOn(always(64), always(greatest), always(1))
	if x.x.Err() != api.OK || string(x.want.text) != "a" {
		t.Errorf("%v, %q", x.x.Err(), x.want.text)
	}
}

// R6: expanders side by side do not change one another.
func TestSideBySide(t *testing.T) {
	random := rand.New(rand.NewSource(3))
	var all []*watched
	for range 9 {
		all = append(all, watch(t, 24, 64, 1+random.Intn(40), someStreams(random, 24)))
	}
	for range 4000 {
		w := all[random.Intn(len(all))]
		w.feed(random.Intn(30))
		if !w.want.ended {
			w.end()
		}
		w.step(random.Intn(50))
		w.take(random.Intn(30))
	}
	for _, w := range all {
		w.goOn(always(64), always(greatest), always(greatest))
	}
}

// Of nil: 0, true (Stopped), empty, false, OK, and ErrState of End; and so of an expander that New did not make.
func TestNil(t *testing.T) {
	for _, x := range []*unpress.Expander{nil, {}} {
		for range 2 {
			for _, n := range []int{1, 100, greatest, 0, -1, least} {
				if x.Step(n) != 0 || x.Take(n) != "" {
					t.Errorf("Step, Take(%d)", n)
				}
			}
			if x.Feed(empty) != 0 || x.Feed("") != 0 || x.End() != api.ErrState {
				t.Error("Feed, End")
			}
			if !x.Stopped() || x.Waiting() != 0 || x.Done() || x.Err() != api.OK || x.Steps() != 0 || x.Held() != 0 {
				t.Errorf("%v, %d, %v, %v, %d, %d", x.Stopped(), x.Waiting(), x.Done(), x.Err(), x.Steps(), x.Held())
			}
		}
	}
}
