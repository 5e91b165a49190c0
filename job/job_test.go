package job_test

import (
	"compress/bzip2"
	"encoding/hex"
	"io"
	"math/rand"
	"strconv"
	"strings"
	"testing"

	"baler/api"
	"baler/crc"
	"baler/job"
	"baler/stream"
)

// The ends of what may be.
var (
	levels  = map[int]bool{1: true, 2: true, 9: true, 0: false, 10: false, -1: false, 1<<32 + 1: false, least: false, greatest: false}
	units   = map[int]bool{24: true, 25: true, 100000: true, 23: false, 100001: false, 0: false, 1<<32 + 24: false, least: false, greatest: false}
	windows = map[int]bool{64: true, 65: true, 1 << 20: true, 63: false, 1<<20 + 1: false, 0: false, 1<<32 + 64: false, least: false, greatest: false}
)

// 26.1, 26.2: what may be, and what may not: the level plays a part where a press is made, and nowhere else; and how much is kept at most.
func TestNew(t *testing.T) {
	for _, kind := range []api.Kind{api.Compress, api.Expand, api.Test, api.NoKind, 4, -1, 1<<32 + 1, least, greatest} {
		for level, isLevel := range levels {
			for unit, isUnit := range units {
				for window, isWindow := range windows {
					j, e := job.New(kind, level, unit, window)
					need, f := job.Need(kind, level, unit, window)
					isKind := kind == api.Compress && isLevel || kind == api.Expand || kind == api.Test
					if !isKind || !isUnit || !isWindow {
						if j != nil || e != api.ErrArg || need != 0 || f != api.ErrArg {
							t.Errorf("%d, %d, %d, %d: New %v, %v; Need %d, %v", kind, level, unit, window, j != nil, e, need, f)
						}
						continue
					}
					want := needOf(kind, level, unit, window)
					if j == nil || e != api.OK || j.Kind() != kind || need != want || f != api.OK {
						t.Errorf("%d, %d, %d, %d: New %v, %v; Need %d, %v, not %d", kind, level, unit, window, j != nil, e, need, f, want)
					}
				}
			}
		}
	}
}

// needOf is how much is kept at most, as the machines' chapters reckon it.
func needOf(kind api.Kind, level, unit, window int) int {
	room := level*unit - 19
	switch kind {
	case api.Compress:
		return window + 8*room + 12000 + 3*room + 1024
	case api.Expand:
		return window + 4096 + 36*unit + 40960
	}
	return window + 4096 + 36*unit + 40992
}

// 26.1: how a job begins: a press has its beginning written, and waits for bytes; the others do not know yet that none are there.
func TestBeginning(t *testing.T) {
	for _, kind := range kinds {
		j, _ := job.New(kind, 9, 24, 64)
		waiting := 0
		if kind == api.Compress {
			waiting = 4
		}
		if j.Stopped() != (kind == api.Compress) || j.Done() || j.Finished() || j.Waiting() != waiting || j.Held() != waiting || j.Steps() != 0 || j.Count() != 0 || j.Err() != api.OK {
			t.Errorf("kind %d: %v, %v, %d wait, %d held", kind, j.Stopped(), j.Done(), j.Waiting(), j.Held())
		}
	}
}

// 26.2: where Of is refused.
func TestOfArguments(t *testing.T) {
	s := encoded(1, 24, "a")
	for _, kind := range []api.Kind{api.Compress, api.Expand, api.Test, api.NoKind, 4, -1, 1<<32 + 2, least, greatest} {
		for level, isLevel := range levels {
			for unit, isUnit := range units {
				got, e := job.Of(kind, level, unit, s)
				want, f := "", api.ErrArg
				isKind := kind == api.Compress && isLevel || kind == api.Expand || kind == api.Test
				if isKind && isUnit {
					want, f = made(kind, level, unit, s)
				}
				if got != want || e != f {
					t.Errorf("Of(%d, %d, %d): %x, %v, not %x, %v", kind, level, unit, got, e, want, f)
				}
			}
		}
	}
}

// The streams of the document's examples.
const (
	empty = "BZh9\x17rE8P\x90\x00\x00\x00\x00"
	one   = "BZh91AY&SY\x19\x93\x9b\x6b\x00\x00\x00\x01\x00\x20\x00\x20\x00\x21\x18\x46\x82\xee\x48\xa7\x0a\x12\x03\x32\x73\x6d\x60"
)

// 26.2, 26.3: the examples, and others by hand.
func TestOf(t *testing.T) {
	for _, c := range []struct {
		kind    api.Kind
		level   int
		s, want string
		e       api.Errno
	}{
		{api.Compress, 9, "", empty, api.OK}, {api.Compress, 9, "a", one, api.OK}, {api.Compress, 0, "a", "", api.ErrArg}, {api.Compress, 1, "", "BZh1" + empty[4:], api.OK},
		{api.Expand, 0, empty, "", api.OK}, {api.Expand, 9, one, "a", api.OK}, {api.Expand, -5, one + empty + one, "aa", api.OK},
		{api.Test, 0, empty, "0", api.OK}, {api.Test, 1, one, "1", api.OK}, {api.Test, 77, one + empty + one, "2", api.OK}, {api.Test, 0, encoded(1, 24, "abc"), "3", api.OK},
		{api.Expand, 1, "", "", api.ErrEnd}, {api.Test, 1, "", "", api.ErrEnd}, {api.Expand, 1, "a", "", api.ErrMagic}, {api.Test, 1, "BZh0", "", api.ErrMagic}, {api.Expand, 1, one + "x", "", api.ErrMagic}, {api.Test, 1, one[:36], "", api.ErrEnd},
		{api.Expand, 1, empty[:13] + "\x01", "", api.ErrCRC}, {api.Test, 1, empty[:13] + "\x01", "", api.ErrCRC}, {api.Expand, 1, turned(one, 14*8+24), "", api.ErrOrig}, {api.Test, 1, one[:14] + like(0, 9), "", api.ErrData},
		{api.NoKind, 1, one, "", api.ErrArg}, {4, 1, one, "", api.ErrArg},
	} {
		if got, e := job.Of(c.kind, c.level, 100000, c.s); got != c.want || e != c.e {
			t.Errorf("Of(%d, %d, %x): %q, %v, not %q, %v", c.kind, c.level, short(c.s), short(got), e, short(c.want), c.e)
		}
	}
}

// 26.2, 26.3: of texts and streams of all kinds; there, and back again.
func TestOfMany(t *testing.T) {
	random := rand.New(rand.NewSource(1))
	for range 500 {
		level, unit, kind := 1+random.Intn(9), 24+random.Intn(1+random.Intn(300)), kinds[random.Intn(3)]
		s := someInput(random, kind, unit)
		want, f := made(kind, level, unit, s)
		if f != api.OK {
			want = ""
		}
		if got, e := job.Of(kind, level, unit, s); got != want || e != f {
			t.Errorf("Of(%d, %d, %d, %x): %q, %v, not %q, %v", kind, level, unit, short(s), short(got), e, short(want), f)
		}
		text := someText(random, 1000)
		packed, e := job.Of(api.Compress, level, unit, text)
		back, f := job.Of(api.Expand, 0, unit, packed)
		count, g := job.Of(api.Test, 0, unit, packed)
		if e != api.OK || f != api.OK || g != api.OK || back != text || count != strconv.Itoa(len(text)) {
			t.Errorf("%d bytes by %d, %d: %v, %v, %v, %q", len(text), level, unit, e, f, g, count)
		}
	}
}

// 26.3: texts of several blocks as long as may be, read by another decoder of the format; and streams of the format's own library.
func TestOfLong(t *testing.T) {
	noise := make([]byte, 250000)
	rand.New(rand.NewSource(2)).Read(noise)
	for i, c := range []struct {
		level int
		text  string
	}{{1, string(noise)}, {2, strings.Repeat("abracadabra ", 40000)}, {9, like('a', 3000000)}} {
		s, e := job.Of(api.Compress, c.level, 100000, c.text)
		read, f := io.ReadAll(bzip2.NewReader(strings.NewReader(s)))
		if e != api.OK || f != nil || string(read) != c.text {
			t.Errorf("%d: %v, %v, %d bytes", i, e, f, len(read))
		}
		if text, e := job.Of(api.Expand, 0, 100000, s); text != c.text || e != api.OK {
			t.Errorf("%d: %v, %d bytes", i, e, len(text))
		}
		if count, e := job.Of(api.Test, 0, 100000, s); count != strconv.Itoa(len(c.text)) || e != api.OK {
			t.Errorf("%d: %v, %q", i, e, count)
		}
	}
	for text, s := range map[string]string{
		"hello, hello, hello\n":                     "425a6839314159265359cb52e5670000055100001040040244a00021243108602f1844c715178bb9229c284865a972b380",
		like('x', 1000) + strings.Repeat("abc", 20): "425a6831314159265359b96e5ea800001f8181b800004000800008200020a947a0300cb21f2291b2e870bb9229c28485cb72f540",
	} {
		out, _ := hex.DecodeString(s)
		if got, e := job.Of(api.Expand, 0, 100000, string(out)); got != text || e != api.OK {
			t.Errorf("%q: %q, %v", short(text), short(got), e)
		}
		if got, e := job.Of(api.Test, 0, 100000, string(out)); got != strconv.Itoa(len(text)) || e != api.OK {
			t.Errorf("%q: %q, %v", short(text), got, e)
		}
	}
}

// 26.1: jobs of all kinds go as their machines do, by as little at a time as may be, and by all at once.
func TestMachines(t *testing.T) {
	for _, text := range []string{"", "a", "banana", "aaaaaabc", like('x', 300) + "yz", strings.Repeat("abcde", 60)} {
		for _, kind := range kinds {
			s := text
			if kind != api.Compress {
				s = encoded(2, 24, text) + encoded(1, 24, text)
			}
			for _, n := range []int{1, 2, 7, 64, greatest} {
				watch(t, kind, 2, 24, 64, s).goOn(always(n), always(n), always(n))
				watch(t, kind, 2, 24, 1<<20, s).goOn(always(greatest), always(n), always(greatest))
			}
		}
	}
}

// 26.1: an expander's limit is 4096: as many bytes that wait keep its blocks back.
func TestLimit(t *testing.T) {
	text := strings.Repeat("abcdefgh", 1250)
	w := watch(t, api.Expand, 0, 20000, 1<<20, encoded(1, 20000, text))
	w.feed(1 << 20)
	w.end()
	w.step(greatest)
	if w.j.Waiting() != 4096 || !w.j.Stopped() || w.j.Done() {
		t.Fatalf("%d wait, stopped %v, done %v", w.j.Waiting(), w.j.Stopped(), w.j.Done())
	}
	w.take(1)
	w.step(greatest)
	if w.j.Waiting() != 4096 || !w.j.Stopped() {
		t.Fatalf("%d wait, stopped %v", w.j.Waiting(), w.j.Stopped())
	}
	w.goOn(always(0), always(greatest), always(greatest))
}

// 26.1: a test is never stopped by what it counts; Count tells it, and of other kinds 0.
func TestCount(t *testing.T) {
	text := strings.Repeat("abcdefgh", 1250)
	s := encoded(1, 20000, text)
	w := watch(t, api.Test, 0, 20000, 1<<20, s)
	w.feed(len(s))
	w.end()
	counts := map[int]bool{}
	for !w.j.Done() {
		w.step(500)
		counts[w.j.Count()] = true
	}
	for _, n := range []int{0, 4096, 8192, 10000} {
		if !counts[n] || len(counts) != 4 {
			t.Errorf("%d is none of %v", n, counts)
		}
	}
	w.take(9)
	w.over()
	for _, kind := range []api.Kind{api.Compress, api.Expand} {
		w := watch(t, kind, 1, 20000, 1<<20, s)
		w.goOn(always(greatest), always(greatest), always(greatest))
		if n := w.j.Count(); n != 0 {
			t.Errorf("kind %d: %d", kind, n)
		}
	}
}

// 26.1: it is finished if it is done, and nothing waits.
func TestFinished(t *testing.T) {
	for _, kind := range kinds {
		j, _ := job.New(kind, 9, 100000, 64)
		s := one
		if kind == api.Compress {
			s = "a"
		}
		j.Feed(s)
		j.End()
		for !j.Done() {
			if j.Finished() {
				t.Errorf("kind %d: finished", kind)
			}
			j.Take(3)
			j.Step(1)
		}
		for n := j.Waiting(); n > 0; n-- {
			if j.Finished() || !j.Done() || len(j.Take(1)) != 1 || j.Waiting() != n-1 {
				t.Errorf("kind %d: finished %v, %d wait", kind, j.Finished(), j.Waiting())
			}
		}
		if !j.Finished() || j.Err() != api.OK || j.Held() != 0 {
			t.Errorf("kind %d: finished %v, %v, %d held", kind, j.Finished(), j.Err(), j.Held())
		}
	}
}

// 26.1: of one that failed all is forgotten: what waited, too; and it is finished.
func TestFailed(t *testing.T) {
	good := encoded(1, 1000, "abcabc"+strings.Repeat("x", 500))
	sum, _ := stream.New(1)
	sum.Block("abcde", crc.Of("abcdf"))
	sum.End()
	bad := sum.Take()
	for _, kind := range []api.Kind{api.Expand, api.Test} {
		for s, want := range map[string]api.Errno{good + "x": api.ErrMagic, good + "BZ": api.ErrEnd, good + bad + good: api.ErrCRC, turned(good, 8*len(good)-20): api.ErrCRC} {
			w := watch(t, kind, 1, 1000, 1000, s)
			w.feed(1000)
			for !w.want.Done() {
				if w.want.Stopped() {
					w.end()
				}
				w.step(1)
			}
			if w.j.Err() != want || w.j.Waiting() != 0 || w.j.Take(greatest) != "" || w.j.Held() != 0 || !w.j.Finished() || !w.j.Stopped() || w.j.Feed("a") != 0 {
				t.Errorf("kind %d, %x: %v, %d wait, %d held", kind, short(s), w.j.Err(), w.j.Waiting(), w.j.Held())
			}
			if n := w.j.Count(); kind == api.Test && n < 506 || kind == api.Expand && n != 0 {
				t.Errorf("kind %d: %d counted", kind, n)
			}
			w.over()
		}
	}
}

// 26.1: a beginning that is none, by four steps.
func TestFailedEarly(t *testing.T) {
	for _, kind := range []api.Kind{api.Expand, api.Test} {
		w := watch(t, kind, 0, 30, 64, "BZh0abcdef")
		w.feed(64)
		w.step(3)
		if w.j.Held() != 7 || w.j.Finished() {
			t.Fatalf("kind %d: %d held", kind, w.j.Held())
		}
		w.step(100)
		if w.j.Steps() != 4 || w.j.Err() != api.ErrMagic || w.j.Held() != 0 || !w.j.Finished() {
			t.Fatalf("kind %d: %d steps, %v", kind, w.j.Steps(), w.j.Err())
		}
		w.over()
	}
}

// 26.1: behind a failure the input may be ended, if it was not; and never twice.
func TestEnd(t *testing.T) {
	for _, kind := range kinds {
		for _, s := range []string{"", "x", one} {
			for before := range 2 {
				j, _ := job.New(kind, 1, 24, 64)
				j.Feed(s)
				j.Step(before)
				if e := j.End(); e != api.OK {
					t.Errorf("kind %d: End: %v", kind, e)
				}
				for range 100 {
					if e := j.End(); e != api.ErrState || j.Feed("a") != 0 {
						t.Errorf("kind %d: End again: %v", kind, e)
					}
					j.Take(greatest)
					j.Step(greatest)
				}
				if !j.Done() {
					t.Errorf("kind %d, %x: not done", kind, s)
				}
			}
		}
	}
}

// 26.1: steps below 1 are none.
func TestNoBudget(t *testing.T) {
	for _, kind := range kinds {
		w := watch(t, kind, 1, 24, 64, encoded(1, 24, "abcabcddddd")+empty)
		for !w.j.Finished() {
			w.feed(2)
			if !w.ended {
				w.end()
			}
			for _, budget := range []int{0, -1, -5, least} {
				w.step(budget)
			}
			w.step(1)
			w.take(2)
		}
		w.over()
	}
}

// 26.1: what was taken stays as it is (R3).
func TestTakeApart(t *testing.T) {
	for _, kind := range kinds {
		s := encoded(1, 24, "abcabcddddd")
		j, _ := job.New(kind, 1, 24, 64)
		var parts []string
		for fed := 0; !j.Finished(); {
			fed += j.Feed(s[fed:])
			if fed == len(s) {
				j.End()
			}
			j.Step(greatest)
			parts = append(parts, j.Take(2), j.Take(1))
		}
		if want, _ := made(kind, 1, 24, s); strings.Join(parts, "") != want {
			t.Errorf("kind %d: %q", kind, parts)
		}
	}
}

// 26.4: one cut of the steps, wherever it may be, with what waits taken there or not; and of the input, too.
func TestCutEverywhere(t *testing.T) {
	good := encoded(1, 24, "aaaaaabc") + encoded(2, 24, "bc")
	for _, kind := range kinds {
		inputs := []string{good, good[:len(good)-9], turned(good, 200)}
		if kind == api.Compress {
			inputs = []string{"aaaaaabc", "bananabandana"}
		}
		for _, s := range inputs {
			w := watch(t, kind, 1, 24, 1000, s)
			w.goOn(always(1000), always(greatest), always(greatest))
			for cut := range w.j.Steps() + 1 {
				for _, most := range []int{0, 1, greatest} {
					again := watch(t, kind, 1, 24, 1000, s)
					again.feed(1000)
					again.end()
					again.step(cut)
					again.take(most)
					again.goOn(always(0), always(greatest), always(greatest))
					same(t, w, again)
				}
			}
			for cut := range len(s) + 1 {
				again := watch(t, kind, 1, 24, 1000, s)
				again.feed(cut)
				again.step(greatest)
				again.goOn(always(1000), always(100), always(3))
				same(t, w, again)
			}
		}
	}
}

// same fails unless both came to the same by as many steps. What was taken ahead of a failure is no result.
func same(t *testing.T, a, b *watched) {
	t.Helper()
	if a.j.Err() != b.j.Err() || a.j.Steps() != b.j.Steps() || a.j.Err() == api.OK && a.taken.String() != b.taken.String() {
		t.Errorf("kind %d: %v, %v; %d, %d steps", a.kind, a.j.Err(), b.j.Err(), a.j.Steps(), b.j.Steps())
	}
}

// 26.1, 26.3, 26.4: inputs of all kinds, cut in all ways.
func TestMany(t *testing.T) {
	random := rand.New(rand.NewSource(3))
	times := map[api.Errno]int{}
	for range 1200 {
		level, unit, kind := 1+random.Intn(9), 24+random.Intn(1+random.Intn(50)), kinds[random.Intn(3)]
		s := someInput(random, kind, unit)
		size := func() func() int { return upTo(random, 1+random.Intn(1<<random.Intn(12))) }
		w := watch(t, kind, level, unit, 64+random.Intn(1+random.Intn(900)), s)
		w.goOn(size(), size(), size())
		again := watch(t, kind, level, unit, 1<<20, s)
		again.goOn(always(1<<20), always(greatest), always(greatest))
		same(t, w, again)
		times[w.j.Err()]++
	}
	for _, e := range []api.Errno{api.OK, api.ErrMagic, api.ErrCRC, api.ErrTable, api.ErrEnd, api.ErrData} {
		if times[e] < 8 {
			t.Errorf("too few of %v: %v", e, times)
		}
	}
}

// R6: jobs side by side do not change one another.
func TestSideBySide(t *testing.T) {
	random := rand.New(rand.NewSource(4))
	var all []*watched
	for i := range 12 {
		all = append(all, watch(t, kinds[i%3], 1, 24, 64, someInput(random, kinds[i%3], 24)))
	}
	for range 5000 {
		w := all[random.Intn(len(all))]
		w.feed(random.Intn(30))
		if !w.ended {
			w.end()
		}
		w.step(random.Intn(50))
		w.take(random.Intn(30))
	}
	for _, w := range all {
		w.goOn(always(64), always(greatest), always(greatest))
	}
}

// Of nil: no kind, 0, true (Stopped), empty, false, OK, and ErrState of End; and so of a job that New did not make.
func TestNil(t *testing.T) {
	for _, j := range []*job.Job{nil, {}} {
		for range 2 {
			for _, n := range []int{1, 100, greatest, 0, -1, least} {
				if j.Step(n) != 0 || j.Take(n) != "" {
					t.Errorf("Step, Take(%d)", n)
				}
			}
			if j.Kind() != api.NoKind || j.Feed(empty) != 0 || j.Feed("") != 0 || j.End() != api.ErrState {
				t.Error("Kind, Feed, End")
			}
			if !j.Stopped() || j.Waiting() != 0 || j.Done() || j.Finished() || j.Err() != api.OK || j.Count() != 0 || j.Steps() != 0 || j.Held() != 0 {
				t.Errorf("%v, %d, %v, %v, %v, %d, %d, %d", j.Stopped(), j.Waiting(), j.Done(), j.Finished(), j.Err(), j.Count(), j.Steps(), j.Held())
			}
		}
	}
}
