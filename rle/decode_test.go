package rle_test

import (
	"math/rand"
	"strings"
	"testing"

	"baler/api"
	"baler/rle"
)

// unpacked is a text unpacked as the chapter tells it: the last four that stand for themselves are looked at.
func unpacked(s string) (string, api.Errno) {
	var out []byte
	stand := "" // that stand for themselves, since the last count
	for i := range len(s) {
		last := stand[max(0, len(stand)-4):]
		switch {
		case len(last) < 4 || strings.Count(last, last[:1]) < 4:
			stand += s[i : i+1]
			out = append(out, s[i])
		case s[i] > 251:
			return "", api.ErrData
		default:
			out = append(out, strings.Repeat(last[:1], int(s[i]))...)
			stand = ""
		}
	}
	if last := stand[max(0, len(stand)-4):]; len(last) == 4 && strings.Count(last, last[:1]) == 4 {
		return "", api.ErrEnd
	}
	return string(out), api.OK
}

// wantDecode fails unless Decode and Length tell this; no text, and no length, beside an error (R4).
func wantDecode(t *testing.T, s, want string, err api.Errno) {
	t.Helper()
	if x, e := rle.Decode(s); x != want || e != err {
		t.Fatalf("Decode(%q) of %d: %q of %d, %v, not %q of %d, %v", short(s), len(s), short(x), len(x), e, short(want), len(want), err)
	}
	if n, e := rle.Length(s); n != len(want) || e != err {
		t.Fatalf("Length(%q) of %d: %d, %v, not %d, %v", short(s), len(s), n, e, len(want), err)
	}
}

// 3.2: texts, unpacked; also such as Encode doesn't make.
func TestDecode(t *testing.T) {
	for s, want := range map[string]string{
		"": "", "a": "a", "abc": "abc", "aaa": "aaa", "aaabaaa": "aaabaaa", "abababab": "abababab",
		"aaaa\x00": "aaaa", "aaaa\x01": "aaaaa", "aaaa\x02b": "aaaaaab", "baaaa\x00": "baaaa", "aaaa\xfb": like('a', 255),
		"aaaa\x00aaa": "aaaaaaa", "aaaa\x00aaaa\x00": "aaaaaaaa", "aaaa\x01aaaa\x02b": like('a', 11) + "b", "aaaa\x00b": "aaaab",
		"aaaa\xfbaaaa\xfb": like('a', 510), "aaaabbbb\x01": "a" + "aaa" + like('a', 98) + "bbb\x01",
		"aaaaa": like('a', 101), "aaaaaa": like('a', 102), "aaaaaaaa": like('a', 104),
		"\x00\x00\x00\x00\x00": like(0, 4), "\x00\x00\x00\x00\x03\x00": like(0, 8), "\x00\x00\x00\x00\x00\x00\x00\x00": like(0, 7),
		"\x02\x02\x02\x02\x02\x02\x02\x02": like(2, 9), "\x04\x04\x04\x04\x04\x04\x04\x04\x04\x04": like(4, 16),
		"\xff\xff\xff\xff\x01\xff": like(0xff, 6), "\xff\xff\xff": "\xff\xff\xff", "\xfc\xfd\xfe\xff": "\xfc\xfd\xfe\xff",
		"\xfb\xfb\xfb\xfb\xfb": like(0xfb, 255), "aaaa\x00\x00\x00\x00": "aaaa\x00\x00\x00", "aaaa\x00\x00\x00\x00\x00\x01": "aaaa\x00\x00\x00\x00\x00",
		"aaaaaaaaaa": like('a', 202),
	} {
		wantDecode(t, s, want, api.OK)
	}
}

// 3.2: counts that are lacking at the end, or too great; whichever is met first.
func TestDecodeErrors(t *testing.T) {
	for s, want := range map[string]api.Errno{
		"aaaa": api.ErrEnd, "baaaa": api.ErrEnd, "aaaa\x00aaaa": api.ErrEnd, "aaaa\x00bbbb": api.ErrEnd, "abcdddd": api.ErrEnd,
		"aaaa\xfbbbbb": api.ErrEnd, "\x00\x00\x00\x00": api.ErrEnd, "\xff\xff\xff\xff": api.ErrEnd, "aaaa\x02\x02\x02\x02\x02": api.ErrEnd,
		"aaaa\xfc": api.ErrData, "aaaa\xfd": api.ErrData, "aaaa\xfe": api.ErrData, "aaaa\xff": api.ErrData, "aaaa\xfcb": api.ErrData,
		"aaaa\x00aaaa\xfc": api.ErrData, "baaaa\xffcccc": api.ErrData, "aaaa\xfcaaaa": api.ErrData, "\xfc\xfc\xfc\xfc\xfc": api.ErrData,
		"\xff\xff\xff\xff\xff\xff\xff\xff": api.ErrData, "aaaa\xfbaaaa\xfc": api.ErrData, "aaaa\xffaaaa\x00": api.ErrData,
		"aaaa\xfc\x00": api.ErrData,
	} {
		wantDecode(t, s, "", want)
	}
}

// 3.2: each count behind each byte.
func TestCounts(t *testing.T) {
	for b := range 256 {
		four, unlike := like(byte(b), 4), like(byte(b)+1, 1)
		for n := range 256 {
			s := four + like(byte(n), 1)
			if n <= 251 {
				wantDecode(t, s, like(byte(b), 4+n), api.OK)
				wantDecode(t, unlike+s+unlike, unlike+like(byte(b), 4+n)+unlike, api.OK)
			} else {
				wantDecode(t, s, "", api.ErrData)
				wantDecode(t, s+"cccc", "", api.ErrData)
			}
		}
	}
}

// 3.2: all short texts, of bytes that are counts as well; the same call tells the same (R6).
func TestDecodeAll(t *testing.T) {
	for _, letters := range []string{"\x00\x01\xfc", "\x02a"} {
		eachText(letters, 10-len(letters)/3, func(s string) {
			want, e := unpacked(s)
			wantDecode(t, s, want, e)
		})
	}
	random := rand.New(rand.NewSource(5))
	letters := "\x00\x00\x01\x02\x05\x05\x05\xfa\xfb\xfc\xff"
	for range 3000 {
		s := ""
		for range random.Intn(10) {
			i := random.Intn(len(letters))
			s += strings.Repeat(letters[i:i+1], 1+random.Intn(5))
		}
		want, e := unpacked(s)
		for range 2 {
			wantDecode(t, s, want, e)
		}
	}
}

// 3.3: Decode of Encode is the text.
func TestThereAndBack(t *testing.T) {
	random := rand.New(rand.NewSource(6))
	for n := range 800 {
		for _, s := range []string{like('x', n), "ab" + like(0, n) + "c", like(0xfc, n) + like(0xff, n)} {
			wantDecode(t, rle.Encode(s), s, api.OK)
		}
	}
	for range 300 {
		s := rowsText(random, random.Intn(20))
		wantDecode(t, rle.Encode(s), s, api.OK)
		some := make([]byte, random.Intn(200))
		random.Read(some)
		wantDecode(t, rle.Encode(string(some)), string(some), api.OK)
	}
	eachText("\x00\x04\xff", 8, func(s string) { wantDecode(t, rle.Encode(s), s, api.OK) })
}

// The bound: a long text, its length alone, and an error far behind.
func TestLongDecode(t *testing.T) {
	s := strings.Repeat("aaaa\xfb", 1<<13)
	wantDecode(t, s, like('a', 255<<13), api.OK)
	wantDecode(t, s+"bbbb", "", api.ErrEnd)
	wantDecode(t, s+"bbbb\xfc", "", api.ErrData)
	if n, e := rle.Length(strings.Repeat("aaaa\xfb", 1<<20)); n != 255<<20 || e != api.OK {
		t.Errorf("Length: %d, %v", n, e)
	}
}
