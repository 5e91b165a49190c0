package used_test

import (
	"math/rand"
	"strings"
	"testing"

	"baler/api"
	"baler/used"
)

// one is a byte as a text.
func one(b int) string { return string([]byte{byte(b)}) }

// whole are all bytes, rising.
func whole() string {
	all := ""
	for b := range 256 {
		all += one(b)
	}
	return all
}

// plain are a text's symbols as the chapter tells them: its bytes, each once, rising.
func plain(s string) string {
	all := ""
	for b := range 256 {
		if strings.Contains(s, one(b)) {
			all += one(b)
		}
	}
	return all
}

// someText is a text of some letters, often of few.
func someText(random *rand.Rand, n int) string {
	first, kinds := random.Intn(256), 1+random.Intn(1<<random.Intn(9))
	s := make([]byte, n)
	for i := range s {
		s[i] = byte(first + random.Intn(kinds))
	}
	return string(s)
}

// someRow is a row of symbols, of each number of sixteens.
func someRow(random *rand.Rand) string {
	s := one(random.Intn(256))
	for range random.Intn(1 << random.Intn(7)) {
		s += one(random.Intn(256))
	}
	return plain(s)
}

// noRows are texts that are no rows of symbols.
func noRows() []string {
	all := whole()
	return []string{
		"", "ba", "aa", "abb", "aab", "aba", "abcb", "abcdd", "\x00\x00", "\xff\xff", "\xff\x00", "\x80\x7f", "\x01\x00", "a\x00",
		"banana", "acb", "bac", all + all, all + "\x00", all + "\xff", "\x00" + all, "\xff" + all, all[:255] + "\x00", all[1:] + "\x00",
		all[:100] + all[99:], all[:16] + all[15:], all[:128] + all[127:], all[128:] + all[:128], strings.Repeat("a", 1000),
	}
}

// wantSymbols fails unless these are a text's symbols, at each call (R6).
func wantSymbols(t *testing.T, s, want string) {
	t.Helper()
	for range 2 {
		if x := used.Symbols(s); x != want {
			t.Fatalf("Symbols(%.80q) of %d: %q, not %q", s, len(s), x, want)
		}
	}
}

// 5.1: a text's bytes, each once, rising.
func TestSymbols(t *testing.T) {
	for s, want := range map[string]string{
		"": "", "a": "a", "aa": "a", "ab": "ab", "ba": "ab", "banana": "abn", "hello\x00\xff": "\x00ehlo\xff",
		"\x00": "\x00", "\xff": "\xff", "\xff\x00\xff": "\x00\xff", "\x80\x7f": "\x7f\x80", "\x10\x0f\x10\x0f": "\x0f\x10",
		"\xc3\xa4": "\xa4\xc3", "zyxwvut": "tuvwxyz",
	} {
		wantSymbols(t, s, want)
	}
	all := whole()
	wantSymbols(t, all, all)
	wantSymbols(t, all[128:]+all[:128]+all, all)
	for b := range 256 {
		wantSymbols(t, one(b), one(b))
		wantSymbols(t, strings.Repeat(one(b), 300), one(b))
		wantSymbols(t, strings.Replace(all, one(b), "", 1), strings.Replace(all, one(b), "", 1))
	}
}

// 5.1: symbols of many texts, and of a long one whose last byte is the only one of its kind.
func TestSymbolsOfMany(t *testing.T) {
	random := rand.New(rand.NewSource(1))
	for range 2000 {
		s := someText(random, random.Intn(300))
		wantSymbols(t, s, plain(s))
	}
	wantSymbols(t, strings.Repeat("x", 1<<20)+"a", "ax")
	wantSymbols(t, "z"+strings.Repeat("yx", 1<<19), "xyz")
}

// 5.1: a row of symbols rises, and has one at least.
func TestIs(t *testing.T) {
	for _, s := range noRows() {
		if used.Is(s) {
			t.Fatalf("Is(%.80q) of %d: true", s, len(s))
		}
	}
	for _, s := range []string{"a", "ab", "abc", "\x00", "\xff", "\x00\xff", "\x7f\x80", "\x0f\x10", "\x00\x01\x02", "az", "abn", whole(), whole()[1:], whole()[:255]} {
		if !used.Is(s) {
			t.Fatalf("Is(%q): false", s)
		}
	}
	for a := range 256 {
		if !used.Is(one(a)) {
			t.Fatalf("Is(%q): false", one(a))
		}
		for b := range 256 {
			if s := one(a) + one(b); used.Is(s) != (a < b) {
				t.Fatalf("Is(%q): %v", s, a >= b)
			}
		}
	}
}

// 5.1: of all bytes one is doubled, or two change places: wherever that is, it is no row.
func TestIsNot(t *testing.T) {
	all := whole()
	for i := range 255 {
		doubled := all[:i+1] + all[i:]
		turned := all[:i] + one(i+1) + one(i) + all[i+2:]
		if used.Is(doubled) || used.Is(turned) {
			t.Fatalf("the byte %d: %v, %v", i, used.Is(doubled), used.Is(turned))
		}
	}
}

// 5.1, 5.4: symbols of a text that is not empty are a row; those of a row are the row.
func TestSymbolsAreRow(t *testing.T) {
	random := rand.New(rand.NewSource(2))
	for range 1000 {
		s := someText(random, 1+random.Intn(100))
		symbols := used.Symbols(s)
		if !used.Is(symbols) || used.Symbols(symbols) != symbols {
			t.Fatalf("Symbols(%q): %q", s, symbols)
		}
		if used.Is(s) != (s == symbols) {
			t.Fatalf("Is(%q): %v", s, used.Is(s))
		}
	}
}

// 5.4: no byte of a text lacks among its symbols, and none of these can be spared.
func TestSymbolsAreLeast(t *testing.T) {
	random := rand.New(rand.NewSource(3))
	for range 500 {
		s := someText(random, 1+random.Intn(200))
		symbols := used.Symbols(s)
		for i := range symbols {
			if !strings.Contains(s, symbols[i:i+1]) {
				t.Fatalf("Symbols(%q) have %q", s, symbols[i])
			}
		}
		for i := range s {
			if !strings.Contains(symbols, s[i:i+1]) {
				t.Fatalf("Symbols(%q) lack %q", s, s[i])
			}
		}
	}
}

// wantBits fails unless symbols take so many bits.
func wantBits(t *testing.T, symbols string, want int, err api.Errno) {
	t.Helper()
	for range 2 {
		if n, e := used.Bits(symbols); n != want || e != err {
			t.Fatalf("Bits(%.80q) of %d: %d, %v, not %d, %v", symbols, len(symbols), n, e, want, err)
		}
	}
}

// 5.1: 16 bits, and 16 for each sixteen of which a byte is there.
func TestBits(t *testing.T) {
	for s, want := range map[string]int{
		"a": 32, "ab": 32, "\x00": 32, "\xff": 32, "\x00\x0f": 32, "\x0f\x10": 48, "\x00\x0f\xff": 48, "\x7f\x80": 48, "Aa": 48, "\x00\x10 0": 80,
		"\x00\x10 0@P`p\x80\x90\xa0\xb0\xc0\xd0\xe0\xf0": 272,
	} {
		wantBits(t, s, want, api.OK)
	}
	all := whole()
	for b := range 256 {
		wantBits(t, one(b), 32, api.OK)
		wantBits(t, all[:b+1], 16+16*(b/16+1), api.OK)
		wantBits(t, all[b:], 16+16*(16-b/16), api.OK)
	}
	for _, s := range noRows() {
		wantBits(t, s, 0, api.ErrArg)
	}
}
