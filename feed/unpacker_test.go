package feed_test

import (
	"math/rand"
	"strings"
	"testing"

	"baler/api"
	"baler/feed"
	"baler/rle"
)

// wantPut fails unless a byte tells this, and nothing beside an error (R4).
func wantPut(t *testing.T, u *feed.Unpacker, b byte, want string, err api.Errno) {
	t.Helper()
	if s, e := u.Put(b); s != want || e != err {
		t.Fatalf("Put(%d): %q, %v, not %q, %v", b, s, e, want, err)
	}
}

// wantWants fails unless a count is wanted, or not.
func wantWants(t *testing.T, u *feed.Unpacker, want bool) {
	t.Helper()
	for range 2 {
		if u.Wants() != want {
			t.Fatalf("Wants: %v", !want)
		}
	}
}

// wantEnd fails unless End tells this.
func wantEnd(t *testing.T, u *feed.Unpacker, want api.Errno) {
	t.Helper()
	if e := u.End(); e != want {
		t.Fatalf("End: %v, not %v", e, want)
	}
}

// four puts four like bytes, behind which a count is wanted.
func four(t *testing.T, u *feed.Unpacker, b byte) {
	t.Helper()
	for range 4 {
		wantWants(t, u, false)
		wantPut(t, u, b, like(b, 1), api.OK)
	}
	wantWants(t, u, true)
}

// 4.2: bytes that stand for themselves, and counts.
func TestUnpackerPut(t *testing.T) {
	for s, want := range map[string][]string{
		"abc":                              {"a", "b", "c"},
		"aaab":                             {"a", "a", "a", "b"},
		"aaaa\x00ab":                       {"a", "a", "a", "a", "", "a", "b"},
		"aaaa\x02b":                        {"a", "a", "a", "a", "aa", "b"},
		"aaaa\x01aaaa\x03":                 {"a", "a", "a", "a", "a", "a", "a", "a", "a", "aaa"},
		"aaaaaaaab":                        {"a", "a", "a", "a", like('a', 97), "a", "a", "a", "b"},
		"\x00\x00\x00\x00\x00\x00\x00\x00": {"\x00", "\x00", "\x00", "\x00", "", "\x00", "\x00", "\x00"},
		"\x02\x02\x02\x02\x02\x02\x02":     {"\x02", "\x02", "\x02", "\x02", "\x02\x02", "\x02", "\x02"},
		"\xff\xff\xff\xff\xfb\xff":         {"\xff", "\xff", "\xff", "\xff", like(0xff, 251), "\xff"},
		"\xc3\xa4\xfc\xff":                 {"\xc3", "\xa4", "\xfc", "\xff"},
		"aabaabbbb\x01":                    {"a", "a", "b", "a", "a", "b", "b", "b", "b", "b"},
	} {
		u := feed.NewUnpacker()
		for i, w := range want {
			wantPut(t, u, s[i], w, api.OK)
		}
		wantEnd(t, u, api.OK)
	}
}

// 4.2: each count behind each byte; of one that may not be nothing changes.
func TestUnpackerCounts(t *testing.T) {
	u := feed.NewUnpacker()
	for b := range 256 {
		for n := range 256 {
			four(t, u, byte(b))
			if n > 251 {
				wantPut(t, u, byte(n), "", api.ErrData)
				wantWants(t, u, true)
				wantPut(t, u, byte(n), "", api.ErrData)
				wantPut(t, u, 2, like(byte(b), 2), api.OK)
			} else {
				wantPut(t, u, byte(n), like(byte(b), n), api.OK)
			}
		}
	}
}

// 4.2: a count is wanted behind four like bytes side by side alone.
func TestWants(t *testing.T) {
	u := feed.NewUnpacker()
	wantWants(t, u, false)
	for _, s := range []string{"aaa", "bbb", "a", "bb", "abababab", "cccdddc"} {
		for i := range len(s) {
			wantPut(t, u, s[i], s[i:i+1], api.OK)
			wantWants(t, u, false)
		}
	}
	wantPut(t, u, 'x', "x", api.OK)
	four(t, u, 'a')
	wantPut(t, u, 'a', like('a', 'a'), api.OK)
	wantWants(t, u, false)
	four(t, u, 'a')
	wantPut(t, u, 0, "", api.OK)
	four(t, u, 0)
	wantPut(t, u, 1, "\x00", api.OK)
	four(t, u, 1)
}

// 4.2: End behind four like bytes tells that their count is lacking, and changes nothing.
func TestUnpackerNoEnd(t *testing.T) {
	u := feed.NewUnpacker()
	for _, b := range []byte{0, 'x', 0xff} {
		wantPut(t, u, 'a', "a", api.OK)
		four(t, u, b)
		for range 3 {
			wantEnd(t, u, api.ErrEnd)
			wantWants(t, u, true)
			wantPut(t, u, 252, "", api.ErrData)
		}
		wantPut(t, u, 3, like(b, 3), api.OK)
		wantWants(t, u, false)
		wantEnd(t, u, api.OK)
	}
}

// 4.2: behind End like bytes are counted anew.
func TestUnpackerAnew(t *testing.T) {
	for n := range 4 {
		for _, b := range []byte{0, 'x', 0xff} {
			u := feed.NewUnpacker()
			wantEnd(t, u, api.OK)
			for range n {
				wantPut(t, u, b, like(b, 1), api.OK)
			}
			wantEnd(t, u, api.OK)
			wantEnd(t, u, api.OK)
			four(t, u, b)
			wantEnd(t, u, api.ErrEnd)
		}
	}
}

// wantText fails unless an unpacker tells of a packed text what rle.Decode does (4.3).
func wantText(t *testing.T, u *feed.Unpacker, s string) {
	t.Helper()
	want, err := rle.Decode(s)
	var told strings.Builder
	for i := range len(s) {
		wants := u.Wants()
		x, e := u.Put(s[i])
		if e != api.OK {
			if e != err || x != "" {
				t.Fatalf("of %q: %q, %v, not %v", short(s), x, e, err)
			}
			wantPut(t, u, 0, "", api.OK) // a count, so that the unpacker can end
			wantEnd(t, u, api.OK)
			return
		}
		if !wants && x != s[i:i+1] {
			t.Fatalf("of %q: the byte %d is %q", short(s), i, x)
		}
		told.WriteString(x)
	}
	if err == api.ErrEnd {
		wantEnd(t, u, err)
		wantPut(t, u, 0, "", api.OK)
	}
	wantEnd(t, u, api.OK)
	if err == api.OK && told.String() != want {
		t.Fatalf("of %q: %q, not %q", short(s), short(told.String()), short(want))
	}
	if err == api.ErrData {
		t.Fatalf("of %q: no error", short(s))
	}
}

// 4.3: an unpacker tells what rle.Decode tells, of packed texts and of others; one for all of them.
func TestUnpackerDecodes(t *testing.T) {
	random := rand.New(rand.NewSource(4))
	u := feed.NewUnpacker()
	letters := "\x00\x00\x01\x02\x05\x05\x05\xfa\xfb\xfc\xff"
	for range 2000 {
		s := ""
		for range random.Intn(10) {
			i := random.Intn(len(letters))
			s += strings.Repeat(letters[i:i+1], 1+random.Intn(5))
		}
		wantText(t, u, s)
	}
	for range 100 {
		wantText(t, u, rle.Encode(someText(random, random.Intn(15))))
	}
}

// 4.3: what a packer tells, an unpacker turns back.
func TestBoth(t *testing.T) {
	random := rand.New(rand.NewSource(5))
	p, u := feed.NewPacker(), feed.NewUnpacker()
	for range 100 {
		s := someText(random, random.Intn(15))
		packed := ""
		for i := range len(s) {
			packed += p.Put(s[i])
		}
		packed += p.End()
		back := ""
		for i := range len(packed) {
			x, e := u.Put(packed[i])
			if e != api.OK {
				t.Fatalf("of %q: %v", short(packed), e)
			}
			back += x
		}
		wantEnd(t, u, api.OK)
		if back != s {
			t.Fatalf("%q, not %q", short(back), short(s))
		}
	}
}

// R6: two unpackers have rows of their own.
func TestTwoUnpackers(t *testing.T) {
	a, b := feed.NewUnpacker(), feed.NewUnpacker()
	four(t, a, 'x')
	wantWants(t, b, false)
	four(t, b, 'y')
	wantPut(t, a, 1, "x", api.OK)
	wantWants(t, b, true)
	wantPut(t, b, 2, "yy", api.OK)
}

// 4.2: of nil.
func TestNoUnpacker(t *testing.T) {
	var u *feed.Unpacker
	for _, b := range []byte{'a', 'a', 'a', 'a', 0, 0xff} {
		wantPut(t, u, b, "", api.ErrState)
		wantWants(t, u, false)
		wantEnd(t, u, api.ErrState)
	}
}

// The bound: a long text byte by byte.
func TestLongUnpack(t *testing.T) {
	u := feed.NewUnpacker()
	all := 0
	s := strings.Repeat("abcccc\xfbcccc\x29dddd\x01", 10000)
	for i := range len(s) {
		x, e := u.Put(s[i])
		if e != api.OK {
			t.Fatalf("the byte %d: %v", i, e)
		}
		all += len(x)
	}
	wantEnd(t, u, api.OK)
	if all != 307*10000 {
		t.Errorf("%d bytes", all)
	}
}
