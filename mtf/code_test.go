package mtf_test

import (
	"math/rand"
	"slices"
	"strings"
	"testing"

	"baler/api"
	"baler/mtf"
	"baler/used"
)

// plain are a text's places as the chapter tells them, of an order that is written anew each time.
func plain(s, symbols string) []int {
	var places []int
	for i := range len(s) {
		place := strings.IndexByte(symbols, s[i])
		places = append(places, place)
		symbols = touched(symbols, place)
	}
	return places
}

// wantEncode fails unless Encode tells this, at each call (R6).
func wantEncode(t *testing.T, s, symbols string, want []int, err api.Errno) {
	t.Helper()
	for range 2 {
		if places, e := mtf.Encode(s, symbols); !slices.Equal(places, want) || e != err {
			t.Fatalf("Encode(%.80q, %q): %.80v, %v, not %.80v, %v", s, symbols, places, e, want, err)
		}
	}
}

// wantDecode fails unless Decode tells this, at each call (R6), and leaves the places as they are (R3).
func wantDecode(t *testing.T, places []int, symbols, want string, err api.Errno) {
	t.Helper()
	before := slices.Clone(places)
	for range 2 {
		if s, e := mtf.Decode(places, symbols); s != want || e != err {
			t.Fatalf("Decode(%.80v, %q): %.80q, %v, not %.80q, %v", places, symbols, s, e, want, err)
		}
	}
	if !slices.Equal(places, before) {
		t.Fatalf("Decode changed its places: %.80v, not %.80v", places, before)
	}
}

// 6.2: the document's example, and others by hand, there and back.
func TestEncodeDecode(t *testing.T) {
	for _, c := range []struct {
		s, symbols string
		want       []int
	}{
		{"bab", "ab", []int{1, 1, 1}}, {"banana", "abn", []int{1, 1, 2, 1, 1, 1}}, {"", "a", nil}, {"", "ab", nil},
		{"a", "a", []int{0}}, {"aaaa", "a", []int{0, 0, 0, 0}}, {"a", "ab", []int{0}}, {"b", "ab", []int{1}}, {"bbb", "ab", []int{1, 0, 0}},
		{"cba", "abc", []int{2, 2, 2}}, {"abc", "abc", []int{0, 1, 2}}, {"abcabc", "abc", []int{0, 1, 2, 2, 2, 2}}, {"cabbage", "abceg", []int{2, 1, 2, 0, 1, 4, 4}},
		{"\xff\x00\xff", "\x00\xff", []int{1, 1, 1}}, {"\x00\x00\x01", "\x00\x01", []int{0, 0, 1}}, {"\x80\x7f\x80\x80", "\x7f\x80", []int{1, 1, 1, 0}},
		{"\xff\xfe\x00", whole(), []int{255, 255, 2}},
	} {
		wantEncode(t, c.s, c.symbols, c.want, api.OK)
		wantDecode(t, c.want, c.symbols, c.s, api.OK)
	}
	wantDecode(t, []int{}, "a", "", api.OK)
}

// 6.2: a text that is no row of symbols is told first, of whatever text and places (R1, R4).
func TestNoRow(t *testing.T) {
	for _, symbols := range noRows() {
		for _, s := range []string{"", "a", "x", "\x00", symbols} {
			wantEncode(t, s, symbols, nil, api.ErrArg)
		}
		for _, places := range [][]int{nil, {0}, {-1}, {1000}, {0, 1, 0}} {
			wantDecode(t, places, symbols, "", api.ErrArg)
		}
	}
}

// 6.2: a byte that is not there, first, last or between, and nothing beside the error.
func TestEncodeNone(t *testing.T) {
	for _, s := range []string{"x", "xa", "ax", "bananax", "xbanana", "banxana", "c", "a\x00", "\xff", "abm", "o", "A"} {
		wantEncode(t, s, "abn", nil, api.ErrNone)
	}
	wantEncode(t, "a", "b", nil, api.ErrNone)
	wantEncode(t, "\x00", "a", nil, api.ErrNone)
	wantEncode(t, strings.Repeat("a", 100000)+"c", "ab", nil, api.ErrNone)
	wantEncode(t, whole(), whole()[:255], nil, api.ErrNone)
	wantEncode(t, whole(), whole()[1:], nil, api.ErrNone)
}

// 6.2: a place that is none, first, last or between, and nothing beside the error.
func TestDecodeNone(t *testing.T) {
	for _, bad := range []int{-1, -2, -3, -256, 3, 4, 5, 255, 256, 259, 1 << 31, 1 << 32, 1<<63 - 1, -1 << 63} {
		for _, places := range [][]int{{bad}, {bad, 0}, {0, bad}, {1, 2, bad}, {2, bad, 2}, {bad, bad}} {
			wantDecode(t, places, "abn", "", api.ErrArg)
		}
	}
	wantDecode(t, []int{1}, "a", "", api.ErrArg)
	wantDecode(t, []int{255}, whole()[1:], "", api.ErrArg)
	wantDecode(t, []int{256}, whole(), "", api.ErrArg)
	wantDecode(t, append(make([]int, 100000), 2), "ab", "", api.ErrArg)
}

// 6.2, 6.3: places of many texts, and these back; by their own symbols, and by more of them.
func TestThereAndBack(t *testing.T) {
	random := rand.New(rand.NewSource(3))
	for range 500 {
		symbols := someRow(random)
		s := someText(random, symbols, random.Intn(300))
		want := plain(s, symbols)
		wantEncode(t, s, symbols, want, api.OK)
		wantDecode(t, want, symbols, s, api.OK)
		wantDecode(t, plain(s, whole()), whole(), s, api.OK)
		if s != "" {
			own := used.Symbols(s)
			wantEncode(t, s, own, plain(s, own), api.OK)
			wantDecode(t, plain(s, own), own, s, api.OK)
		}
	}
}

// 6.2, 6.3: any places are a text, and its places are these.
func TestBackAndThere(t *testing.T) {
	random := rand.New(rand.NewSource(4))
	for range 500 {
		symbols := someRow(random)
		places := make([]int, random.Intn(300))
		for i := range places {
			places[i] = random.Intn(len(symbols))
		}
		s, e := mtf.Decode(places, symbols)
		if e != api.OK || len(s) != len(places) {
			t.Fatalf("Decode of %d places, %q: %d, %v", len(places), symbols, len(s), e)
		}
		wantEncode(t, s, symbols, places, api.OK)
		if !slices.Equal(plain(s, symbols), places) {
			t.Fatalf("Decode(%v, %q): %q", places, symbols, s)
		}
	}
}

// 6.2: a call's places are found in a new list, and are those that the list itself tells.
func TestNewEachTime(t *testing.T) {
	random := rand.New(rand.NewSource(5))
	for range 100 {
		symbols := someRow(random)
		s := someText(random, symbols, 1+random.Intn(100))
		l, m := list(t, symbols), list(t, symbols)
		places, _ := mtf.Encode(s, symbols)
		for i, place := range places {
			wantFind(t, l, s[i], place, api.OK)
			wantAt(t, m, place, s[i], api.OK)
		}
		wantOrder(t, m, l.Text())
	}
}

// 6.2: answers share no memory (R3).
func TestAnswersApart(t *testing.T) {
	first, _ := mtf.Encode("banana", "abn")
	second, _ := mtf.Encode("banana", "abn")
	for i := range first {
		first[i] = 7
	}
	if !slices.Equal(second, []int{1, 1, 2, 1, 1, 1}) {
		t.Fatalf("the other answer became %v", second)
	}
	wantEncode(t, "banana", "abn", second, api.OK)
}

// 6.4: the place is 0 where the byte is that of just ahead, and there alone; of the first byte, if it is the least symbol.
func TestPlaceZero(t *testing.T) {
	random := rand.New(rand.NewSource(6))
	for range 300 {
		symbols := someRow(random)
		s := someText(random, symbols, 1+random.Intn(200))
		places, e := mtf.Encode(s, symbols)
		if len(places) != len(s) || e != api.OK {
			t.Fatalf("Encode(%q, %q): %v, %v", s, symbols, places, e)
		}
		ahead := symbols[0]
		for i := range places {
			if (places[i] == 0) != (s[i] == ahead) {
				t.Fatalf("Encode(%q, %q): %v, at %d", s, symbols, places, i)
			}
			ahead = s[i]
		}
	}
}

// 6.2: long texts.
func TestLong(t *testing.T) {
	n := 200000
	s := strings.Repeat("ab", n)
	places, e := mtf.Encode(s, "ab")
	if len(places) != 2*n || e != api.OK {
		t.Fatalf("Encode: %d places, %v", len(places), e)
	}
	for i, place := range places {
		if place != min(i, 1) {
			t.Fatalf("the place %d is %d", i, place)
		}
	}
	wantDecode(t, places, "ab", s, api.OK)
	wantDecode(t, make([]int, n), "\xfd\xfe", strings.Repeat("\xfd", n), api.OK)
}
