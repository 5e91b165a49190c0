package stream_test

import (
	"compress/bzip2"
	"io"
	"math/rand"
	"strings"
	"testing"

	"baler/api"
	"baler/crc"
	"baler/split"
	"baler/stream"
)

// wantWith fails unless With tells this.
func wantWith(t *testing.T, level, unit int, s, want string, err api.Errno) {
	t.Helper()
	if got, e := stream.With(level, unit, s); got != want || e != err {
		t.Fatalf("With(%d, %d, %q of %d): %x of %d, %v, not %x of %d, %v", level, unit, short(s), len(s), short(got), len(got), e, short(want), len(want), err)
	}
}

// wantEncode fails unless Encode tells this.
func wantEncode(t *testing.T, level int, s, want string, err api.Errno) {
	t.Helper()
	if got, e := stream.Encode(level, s); got != want || e != err {
		t.Fatalf("Encode(%d, %q of %d): %x of %d, %v, not %x of %d, %v", level, short(s), len(s), short(got), len(got), e, short(want), len(want), err)
	}
}

// plainWith is a text's stream, and of how many blocks.
func plainWith(level, unit int, s string) (string, int) {
	var parts []part
	blocks, _ := split.Of(s, level*unit-19)
	for _, b := range blocks {
		parts = append(parts, part{b.Body, -1, b.Sum})
	}
	return plain(level, parts, true), len(parts)
}

// someText is a text with rows of like bytes.
func someText(random *rand.Rand) string {
	var s strings.Builder
	letters := 1 + random.Intn(1<<random.Intn(9))
	for range random.Intn(1 << random.Intn(10)) {
		n := 1
		if random.Intn(9) == 0 {
			n += random.Intn(400)
		}
		s.WriteString(like(byte(random.Intn(letters)), n))
	}
	return s.String()
}

// noise is a text of so many bytes of all kinds.
func noise(n int) string {
	s := make([]byte, n)
	rand.New(rand.NewSource(int64(n))).Read(s)
	return string(s)
}

// 21.1, 21.5: the empty text by each level: 14 bytes, whatever the unit; and the document's example.
func TestEmpty(t *testing.T) {
	for level := 1; level <= 9; level++ {
		want := "BZh" + string([]byte{byte('0' + level)}) + "\x17\x72\x45\x38\x50\x90\x00\x00\x00\x00"
		if len(want) != 14 {
			t.Fatal(len(want))
		}
		wantEncode(t, level, "", want, api.OK)
		for _, unit := range []int{24, 25, 99999, 100000} {
			wantWith(t, level, unit, "", want, api.OK)
		}
	}
}

// 21.1: a text of one byte: of it the format's own library makes the same stream.
func TestOne(t *testing.T) {
	want := "BZh91AY&SY\x19\x93\x9b\x6b\x00\x00\x00\x01\x00\x20\x00\x20\x00\x21\x18\x46\x82\xee\x48\xa7\x0a\x12\x03\x32\x73\x6d\x60"
	wantEncode(t, 9, "a", want, api.OK)
	wantWith(t, 9, 24, "a", want, api.OK)
	wantEncode(t, 1, "a", "BZh1"+want[4:], api.OK)
}

// 21.1: the room is the level times the unit, less 19: a text that just fits in, and a byte more.
func TestRoom(t *testing.T) {
	for _, c := range []struct{ level, unit, room int }{{1, 24, 5}, {1, 25, 6}, {2, 24, 29}, {9, 24, 197}, {3, 1000, 2981}, {1, 100000, 99981}} {
		s := strings.Repeat("ab", c.room)[:c.room+1]
		full, over := s[:c.room], s[c.room:]
		one := part{full, -1, crc.Of(full)}
		wantWith(t, c.level, c.unit, full, plain(c.level, []part{one}, true), api.OK)
		wantWith(t, c.level, c.unit, s, plain(c.level, []part{one, {over, -1, crc.Of(over)}}, true), api.OK)
	}
}

// 21.1: texts of all kinds, by many levels and units, of no block or of many.
func TestWith(t *testing.T) {
	random := rand.New(rand.NewSource(2))
	number := map[int]int{}
	for range 600 {
		level, unit, s := 1+random.Intn(9), 24+random.Intn(1<<random.Intn(10)), someText(random)
		want, n := plainWith(level, unit, s)
		wantWith(t, level, unit, s, want, api.OK)
		number[min(n, 5)]++
		want, _ = plainWith(level, 100000, s)
		wantEncode(t, level, s, want, api.OK)
	}
	for n := range 6 {
		if number[n] < 5 {
			t.Errorf("too few of %d blocks: %v", n, number)
		}
	}
}

// 21.1: levels and units that may be, and such that may not, whatever the text.
func TestArguments(t *testing.T) {
	for _, s := range []string{"", "a", "abcdefgh"} {
		for _, level := range []int{1, 2, 5, 8, 9, 0, 10, -1, 257, 1<<32 + 1, least, greatest} {
			for _, unit := range []int{24, 25, 50, 99999, 100000, 23, 100001, 0, -24, 1<<32 + 24, least, greatest} {
				want, e := "", api.ErrArg
				if level >= 1 && level <= 9 && unit >= 24 && unit <= 100000 {
					want, _ = plainWith(level, unit, s)
					e = api.OK
				}
				wantWith(t, level, unit, s, want, e)
				if unit == 100000 {
					wantEncode(t, level, s, want, e)
				}
			}
		}
	}
}

// 21.1: streams are such as another one's decoder of the format reads, also of more blocks than one.
func TestForOthers(t *testing.T) {
	random := rand.New(rand.NewSource(3))
	texts := []string{"", "a", like('x', 259), like('\xff', 300000), strings.Repeat("abcabd", 40000), noise(120000)}
	for range 100 {
		texts = append(texts, someText(random))
	}
	for i, s := range texts {
		for _, unit := range []int{24 + random.Intn(2000), 100000} {
			out, e := stream.With(1+i%9, unit, s)
			if e != api.OK {
				t.Fatalf("With: %v", e)
			}
			if l, err := io.ReadAll(bzip2.NewReader(strings.NewReader(out))); string(l) != s || err != nil {
				t.Fatalf("the stream of %q of %d is read as %q of %d, %v", short(s), len(s), short(string(l)), len(l), err)
			}
		}
	}
}

// 21.3: rooms that may be, and such that may not.
func TestMost(t *testing.T) {
	for room, want := range map[int]int{
		5: 12015, 6: 12018, 24: 12072, 99981: 311943, 100000: 312000, 899981: 2711943, 899999: 2711997, 900000: 2712000,
		4: 0, 3: 0, 1: 0, 0: 0, -1: 0, -5: 0, 900001: 0, 1 << 32: 0, 1<<32 + 5: 0, least: 0, greatest: 0,
	} {
		if n := stream.Most(room); n != want {
			t.Errorf("Most(%d): %d, not %d", room, n, want)
		}
	}
}

// doubling is a text of bytes that are there twice as often each as the one ahead, mixed.
func doubling(bytes int) string {
	var s []byte
	for b := range bytes {
		s = append(s, like(byte(b), 1<<b)...)
	}
	rand.New(rand.NewSource(4)).Shuffle(len(s), func(i, k int) { s[i], s[k] = s[k], s[i] })
	return string(s)
}

// 21.6: what a block may take up, of bytes of all kinds, and of such as need long codes.
func TestMostHolds(t *testing.T) {
	every := ""
	for b := range 256 {
		every += like(byte(b), 1)
	}
	for _, body := range []string{"a", "abcde", every, noise(256), noise(30000), noise(most), doubling(9), doubling(19)} {
		w := writer(t, 9)
		w.Take()
		wantWrite(t, w, part{body, -1, 1}, api.OK)
		// A part of a byte may wait.
		if n, want := w.Held()+1, stream.Most(max(5, len(body))); n > want {
			t.Errorf("a block of %q of %d takes up %d, not at most %d", short(body), len(body), n, want)
		}
	}
}
