package token_test

import (
	"fmt"
	"math/rand"
	"slices"
	"strings"
	"testing"
	"unicode/utf8"

	"baler/api"
	"baler/token"
)

// least and greatest are the ends of all numbers, most is the last rune.
const (
	least    = -1 << 63
	greatest = 1<<63 - 1
	most     = 0x10ffff
)

// isRune is what is a rune, as the chapter tells it.
func isRune(n int) bool { return n >= 0 && n < 0xd800 || n > 0xdfff && n <= most }

// encoded are a rune's bytes, as short as can be, put together bit by bit.
func encoded(n int) string {
	switch {
	case n < 1<<7:
		return string([]byte{byte(n)})
	case n < 1<<11:
		return string([]byte{byte(0xc0 | n>>6), byte(0x80 | n&63)})
	case n < 1<<16:
		return string([]byte{byte(0xe0 | n>>12), byte(0x80 | n>>6&63), byte(0x80 | n&63)})
	}
	return string([]byte{byte(0xf0 | n>>18), byte(0x80 | n>>12&63), byte(0x80 | n>>6&63), byte(0x80 | n&63)})
}

// part is a rune of a text, or a bad byte (-1), and its bytes.
type part struct {
	n     int
	bytes string
}

// first is what a text begins with, as the chapter tells it: the shortest row of bytes that is a rune, or a bad byte.
func first(s string) part {
	for length := 1; length <= min(4, len(s)); length++ {
		n := int(s[0])
		if length > 1 {
			n = int(s[0]) & (1<<(7-length) - 1)
		}
		for _, b := range []byte(s[1:length]) {
			n = n<<6 | int(b)&63
		}
		if isRune(n) && encoded(n) == s[:length] {
			return part{n, s[:length]}
		}
	}
	return part{-1, s[:1]}
}

// parts are a text's parts, from left to right.
func parts(s string) []part {
	var all []part
	for s != "" {
		p := first(s)
		all = append(all, p)
		s = s[len(p.bytes):]
	}
	return all
}

// mayStand is what may stand in a word, as the chapter tells it.
func mayStand(n int) bool {
	return n != -1 && n > 32 && !(127 <= n && n <= 160) && n != ':' && n != '#'
}

// held fails unless all that can be asked of a text is as the chapter tells it.
func held(t *testing.T, s string) {
	t.Helper()
	all := parts(s)
	numbers := make([]int, len(all))
	masked, word := "", len(all) >= 1 && len(all) <= 32
	wrong, at, gone := 0, -1, 0
	for i, p := range all {
		numbers[i] = p.n
		if masked += "*"; i == 0 {
			masked = p.bytes
		}
		if !mayStand(p.n) {
			word = false
			if at < 0 {
				wrong, at = p.n, gone
			}
		}
		gone += len(p.bytes)
	}
	if l := token.Runes(s); !slices.Equal(l, numbers) {
		t.Fatalf("Runes(%q): %x, not %x", s, l, numbers)
	}
	if n := token.Len(s); n != len(all) {
		t.Fatalf("Len(%q): %d, not %d", s, n, len(all))
	}
	if token.Is(s) != word {
		t.Fatalf("Is(%q): %v", s, !word)
	}
	if n, from := token.First(s); n != wrong || from != at {
		t.Fatalf("First(%q): %x at %d, not %x at %d", s, n, from, wrong, at)
	}
	if m := token.Masked(s); m != masked {
		t.Fatalf("Masked(%q): %q, not %q", s, m, masked)
	}
	back(t, s, numbers)
	cut(t, s, all)
}

// back fails unless the runes of a text are put together again, and unless a bad one is refused.
func back(t *testing.T, s string, numbers []int) {
	t.Helper()
	want, wanted := s, api.OK
	if slices.Contains(numbers, -1) {
		want, wanted = "", api.ErrArg
	}
	if x, e := token.Text(numbers); x != want || e != wanted {
		t.Fatalf("Text(%x): %q, %v", numbers, x, e)
	}
}

// cut fails unless a text is cut as it must be, behind each of its runes.
func cut(t *testing.T, s string, all []part) {
	t.Helper()
	want := ""
	for n := range len(all) + 1 {
		x := token.Cut(s, n)
		if x != want {
			t.Fatalf("Cut(%q, %d): %q, not %q", s, n, x, want)
		}
		if a, b := token.Len(x), token.Len(s[len(x):]); a != n || b != len(all)-n {
			t.Fatalf("%q, cut behind %d: %d and %d runes", s, n, a, b)
		}
		if n < len(all) {
			want += all[n].bytes
		}
	}
	for _, n := range []int{len(all) + 1, len(all) + 2, 1 << 40, greatest} {
		if x := token.Cut(s, n); x != s {
			t.Fatalf("Cut(%q, %d): %q", s, n, x)
		}
	}
	for _, n := range []int{-1, -2, -1 << 40, least} {
		if x := token.Cut(s, n); x != "" {
			t.Fatalf("Cut(%q, %d): %q", s, n, x)
		}
	}
}

// 31.1, 31.2: the example of the chapter.
func TestExample(t *testing.T) {
	if l := token.Runes("\x61\xc3\xa9\xff"); !slices.Equal(l, []int{97, 233, -1}) {
		t.Errorf("Runes: %v", l)
	}
	if s := token.Masked("abc"); s != "a**" {
		t.Errorf("Masked: %q", s)
	}
}

// 31.1, 31.2: some texts, told by hand.
func TestByHand(t *testing.T) {
	for _, c := range []struct {
		s      string
		runes  []int
		masked string
		n, at  int
		word   bool
	}{
		{"", nil, "", 0, -1, false},
		{"k", []int{'k'}, "k", 0, -1, true},
		{"\u20acuro", []int{0x20ac, 'u', 'r', 'o'}, "\u20ac***", 0, -1, true},
		{"\xef\xbf\xbd", []int{0xfffd}, "\xef\xbf\xbd", 0, -1, true},
		{"a\xef\xbf\xbdb", []int{'a', 0xfffd, 'b'}, "a**", 0, -1, true},
		{"\xef\xbf", []int{-1, -1}, "\xef*", -1, 0, false},
		{"a\xef\xbfb", []int{'a', -1, -1, 'b'}, "a***", -1, 1, false},
		{"\xc0\x80", []int{-1, -1}, "\xc0*", -1, 0, false},
		{"\xe0\x9f\xbf", []int{-1, -1, -1}, "\xe0**", -1, 0, false},
		{"\xed\xa0\x80", []int{-1, -1, -1}, "\xed**", -1, 0, false},
		{"\xf0\x8f\xbf\xbf", []int{-1, -1, -1, -1}, "\xf0***", -1, 0, false},
		{"\xf4\x90\x80\x80", []int{-1, -1, -1, -1}, "\xf4***", -1, 0, false},
		{"\xf4\x8f\xbf\xbf", []int{0x10ffff}, "\xf4\x8f\xbf\xbf", 0, -1, true},
		{"\xf0\x9f\x98\x80!", []int{0x1f600, '!'}, "\xf0\x9f\x98\x80*", 0, -1, true},
		{"\x80a", []int{-1, 'a'}, "\x80*", -1, 0, false},
		{"\xff:", []int{-1, ':'}, "\xff*", -1, 0, false},
		{"\u00e9:\xff", []int{0xe9, ':', -1}, "\u00e9**", ':', 2, false},
		{"a\x00", []int{'a', 0}, "a*", 0, 1, false},
		{"\x00", []int{0}, "\x00", 0, 0, false},
		{"a b", []int{'a', ' ', 'b'}, "a**", ' ', 1, false},
		{"#a", []int{'#', 'a'}, "#*", '#', 0, false},
		{"a\n", []int{'a', '\n'}, "a*", '\n', 1, false},
		{"ab\u00a0#", []int{'a', 'b', 0xa0, '#'}, "a***", 0xa0, 2, false},
	} {
		held(t, c.s)
		if l := token.Runes(c.s); !slices.Equal(l, c.runes) || token.Len(c.s) != len(c.runes) {
			t.Errorf("Runes(%q): %x, Len: %d", c.s, l, token.Len(c.s))
		}
		if m := token.Masked(c.s); m != c.masked {
			t.Errorf("Masked(%q): %q", c.s, m)
		}
		if n, at := token.First(c.s); n != c.n || at != c.at || token.Is(c.s) != c.word {
			t.Errorf("First(%q): %x at %d, Is: %v", c.s, n, at, token.Is(c.s))
		}
	}
}

// 31.1, 31.2, 31.3: each rune there is, by itself and beside others.
func TestEachRune(t *testing.T) {
	for n := range most + 1 {
		if !isRune(n) {
			continue
		}
		want := encoded(n)
		if s, e := token.Text([]int{n}); s != want || e != api.OK {
			t.Fatalf("Text(%x): %q, %v, not %q", n, s, e, want)
		}
		if l := token.Runes(want); len(l) != 1 || l[0] != n {
			t.Fatalf("Runes(%q): %x", want, l)
		}
		s := "a" + want
		wrong, at := token.First(s)
		if mayStand(n) != token.Is(s) || mayStand(n) != (at == -1) || !mayStand(n) && (wrong != n || at != 1) {
			t.Fatalf("Is(%q): %v, First: %x at %d", s, token.Is(s), wrong, at)
		}
		if m, c := token.Masked(want+s), token.Cut(want+s, 1); m != want+"**" || c != want {
			t.Fatalf("Masked(%q): %q, Cut: %q", want+s, m, c)
		}
	}
}

// 31.1: numbers that are no runes, wherever they stand.
func TestTextArguments(t *testing.T) {
	for _, n := range []int{-1, -2, -0x10ffff, 0xd800, 0xd801, 0xdbff, 0xdc00, 0xdffe, 0xdfff, 0x110000, 0x110001, 1 << 31, 1 << 32, 1<<32 + 'a', -1<<32 + 'a', 1 << 40, least, least + 'a', greatest} {
		for _, l := range [][]int{{n}, {n, 'a'}, {'a', n}, {'a', n, 'b'}, {n, n}} {
			if s, e := token.Text(l); s != "" || e != api.ErrArg {
				t.Errorf("Text(%x): %q, %v", l, s, e)
			}
		}
	}
	for n := 0xd800; n <= 0xdfff; n++ {
		if s, e := token.Text([]int{'a', n}); s != "" || e != api.ErrArg {
			t.Fatalf("Text(%x): %q, %v", n, s, e)
		}
	}
	for _, l := range [][]int{nil, {}} {
		if s, e := token.Text(l); s != "" || e != api.OK {
			t.Errorf("Text of none: %q, %v", s, e)
		}
	}
	if s, e := token.Text([]int{0xd7ff, 0xe000, 0, most}); s != "\xed\x9f\xbf\xee\x80\x80\x00\xf4\x8f\xbf\xbf" || e != api.OK {
		t.Errorf("Text: %q, %v", s, e)
	}
}

// 31.1 to 31.4: all texts of one byte and of two.
func TestShortTexts(t *testing.T) {
	held(t, "")
	for a := range 256 {
		held(t, string([]byte{byte(a)}))
		for b := range 256 {
			held(t, string([]byte{byte(a), byte(b)}))
		}
	}
}

// edges are bytes at the edges of what a rune's bytes may be.
var edges = []byte{0, ' ', '!', '#', ':', 'a', 0x7f, 0x80, 0x8f, 0x90, 0x9f, 0xa0, 0xbf, 0xc0, 0xc1, 0xc2, 0xdf, 0xe0, 0xe1, 0xec, 0xed, 0xee, 0xef, 0xf0, 0xf1, 0xf3, 0xf4, 0xf5, 0xf8, 0xff}

// 31.1 to 31.4: all texts of three and four bytes of the edges.
func TestEdges(t *testing.T) {
	for _, a := range edges {
		for _, b := range edges {
			for _, c := range edges {
				held(t, string([]byte{a, b, c}))
			}
		}
	}
	for _, a := range edges[17:] {
		for _, b := range edges[6:14] {
			for _, c := range edges[6:14] {
				for _, d := range edges {
					held(t, string([]byte{a, b, c, d}))
				}
			}
		}
	}
}

// 31.2: as many runes as a word may have, and one more, of each length in bytes.
func TestLongestWord(t *testing.T) {
	for _, one := range []string{"a", "\u00e9", "\u20ac", "\U0001f600", "\ufffd"} {
		for n := range 70 {
			s := strings.Repeat(one, n)
			held(t, s)
			if token.Is(s) != (n >= 1 && n <= 32) {
				t.Errorf("Is of %d times %q: %v", n, one, token.Is(s))
			}
			held(t, s+"\xff")
			held(t, s+":"+s)
			if token.Is(s + "\xff") {
				t.Errorf("Is of %d times %q and a bad byte", n, one)
			}
		}
	}
}

// 31.2: a rune that may not stand there, at each place of a word.
func TestFirst(t *testing.T) {
	word := "a\u00e9\u20ac\U0001f600\ufffdb"
	for _, n := range []int{-1, 0, 1, '\n', 31, 32, '#', ':', 127, 128, 0x9f, 0xa0} {
		bytes := "\xff"
		if n >= 0 {
			bytes = encoded(n)
		}
		for i := range token.Len(word) + 1 {
			head := token.Cut(word, i)
			s := head + bytes + word[len(head):]
			held(t, s)
			if wrong, at := token.First(s); wrong != n || at != len(head) || token.Is(s) {
				t.Errorf("First(%q): %x at %d, Is: %v", s, wrong, at, token.Is(s))
			}
			if wrong, at := token.First(s + ":\xff "); wrong != n || at != len(head) {
				t.Errorf("First(%q): %x at %d", s+":\xff ", wrong, at)
			}
		}
	}
	for _, n := range []int{33, '"', '$', '9', ';', 126, 0xa1, 0xd7ff, 0xe000, 0xfffd, 0xfffe, most} {
		if s := "x" + encoded(n); !token.Is(s) {
			t.Errorf("Is(%q): false", s)
		}
	}
}

// 31.2: the same bytes, and no others, whether they are runes or not.
func TestSame(t *testing.T) {
	texts := []string{"", "a", "b", "A", "aa", "ab", "ba", "a\x00", "\x00", "\xff", "\xfe", "\ufffd", "\xef", "\xef\xbf", "\u00e9", "e\u0301", "\u212b", "\u00c5", "a ", " a"}
	for i, a := range texts {
		for j, b := range texts {
			if token.Same(a, strings.Clone(b)) != (i == j) {
				t.Errorf("Same(%q, %q): %v", a, b, i != j)
			}
		}
	}
	long := strings.Repeat("a", 10000)
	for _, other := range []string{long + "a", long[1:], "b" + long[1:], long[1:] + "b", long[:5000] + "b" + long[:4999]} {
		if token.Same(long, other) || token.Same(other, long) || !token.Same(other, strings.Clone(other)) {
			t.Error("Same of long texts")
		}
	}
}

// some is a text of some runes, and of bad bytes, if these are asked for.
func some(random *rand.Rand, length int, bad bool) string {
	s := ""
	for range length {
		n := random.Intn(most+1) >> random.Intn(21)
		switch {
		case bad && random.Intn(4) == 0:
			s += string([]byte{byte(random.Intn(256))})
		case bad && random.Intn(8) == 0 && isRune(n):
			s += encoded(n)[:random.Intn(len(encoded(n)))]
		case isRune(n):
			s += encoded(n)
		}
	}
	return s
}

// 31.1 to 31.4: many texts, with bad bytes and without.
func TestMany(t *testing.T) {
	for seed := range 20000 {
		random := rand.New(rand.NewSource(int64(seed)))
		held(t, some(random, random.Intn(40), seed%2 == 0))
	}
}

// 31.3: of many numbers, those that are runes come back, and where one is none, nothing is told.
func TestTextOfMany(t *testing.T) {
	for seed := range 20000 {
		random := rand.New(rand.NewSource(int64(seed)))
		l := make([]int, random.Intn(12))
		good := true
		for i := range l {
			l[i] = random.Intn(most+1) >> random.Intn(21)
			if random.Intn(20) == 0 {
				l[i] = most/2 - random.Intn(1<<22)
			}
			good = good && isRune(l[i])
		}
		given := slices.Clone(l)
		s, e := token.Text(l)
		if good != (e == api.OK) || !good && (s != "" || e != api.ErrArg) {
			t.Fatalf("Text(%x): %q, %v", l, s, e)
		}
		if good && !slices.Equal(token.Runes(s), l) {
			t.Fatalf("Runes of Text(%x): %x", l, token.Runes(s))
		}
		if !slices.Equal(l, given) {
			t.Fatalf("Text changed %x to %x", given, l)
		}
	}
}

// 31.1, 31.2: a long text, good and bad.
func TestLong(t *testing.T) {
	const times = 100000
	s := strings.Repeat("\u20ac\xff\ufffd", times)
	l := token.Runes(s)
	if token.Len(s) != 3*times || len(l) != 3*times {
		t.Fatalf("Len: %d, Runes: %d", token.Len(s), len(l))
	}
	for i, n := range l {
		if n != []int{0x20ac, -1, 0xfffd}[i%3] {
			t.Fatalf("the rune %d: %x", i, n)
		}
	}
	if m := token.Masked(s); m != "\u20ac"+strings.Repeat("*", 3*times-1) {
		t.Error("Masked")
	}
	if n, at := token.First(s[:3] + strings.ReplaceAll(s, "\xff", "") + "#"); n != '#' || at != 3+6*times {
		t.Errorf("First: %x at %d", n, at)
	}
	if x := token.Cut(s, 3*times-1); x != s[:7*times-3] {
		t.Errorf("Cut: %d bytes", len(x))
	}
	if token.Is(s) || token.Is(strings.Repeat("a", times)) {
		t.Error("Is")
	}
	if _, e := token.Text(slices.Repeat([]int{0x20ac}, times)); e != api.OK {
		t.Errorf("Text: %v", e)
	}
}

// R3, R6: the same call tells the same, and what it told has memory of its own.
func TestAgain(t *testing.T) {
	s := "a\u00e9\xff\ufffdb"
	told := token.Runes(s)
	want := slices.Clone(told)
	for i := range told {
		told[i] = 7
	}
	if l := token.Runes(s); !slices.Equal(l, want) {
		t.Errorf("Runes: %x, not %x", l, want)
	}
	l := []int{'a', 'b'}
	x, _ := token.Text(l)
	l[0] = 'z'
	if x != "ab" {
		t.Errorf("Text is %q by now", x)
	}
	for range 2 {
		held(t, s)
	}
}

// The model's own edges are those of the library.
func TestModel(t *testing.T) {
	for n := range most + 2 {
		if isRune(n) != utf8.ValidRune(rune(n)) || isRune(n) && encoded(n) != fmt.Sprintf("%c", n) {
			t.Fatalf("the model of %x", n)
		}
	}
}
