package mtf_test

import (
	"math/rand"
	"strings"
	"testing"

	"baler/api"
	"baler/mtf"
	"baler/used"
)

// one is a byte as a text.
func one(b int) string { return string([]byte{byte(b)}) }

// whole are all bytes, rising.
func whole() string {
	all := ""
	for b := range 256 {
		all += one(b)
	}
	return all
}

// noRows are texts that are no rows of symbols.
func noRows() []string {
	all := whole()
	return []string{
		"", "ba", "aa", "abb", "aab", "aba", "acb", "\x00\x00", "\xff\x00", "\x80\x7f", "banana",
		all + all, all + "\x00", all + "\xff", "\x00" + all, all[:16] + all[15:], all[128:] + all[:128],
	}
}

// someRow is a row of symbols, of few or many.
func someRow(random *rand.Rand) string {
	s := one(random.Intn(256))
	for range random.Intn(1 << random.Intn(10)) {
		s += one(random.Intn(256))
	}
	return used.Symbols(s)
}

// someText is a text of some symbols, with like ones side by side.
func someText(random *rand.Rand, symbols string, n int) string {
	s := ""
	for len(s) < n {
		i := random.Intn(len(symbols))
		s += strings.Repeat(symbols[i:i+1], 1+random.Intn(3)*random.Intn(3))
	}
	return s[:n]
}

// touched is an order behind the touch of the symbol at a place.
func touched(order string, place int) string {
	return order[place:place+1] + order[:place] + order[place+1:]
}

// list is a new list; it fails, if there is none.
func list(t *testing.T, symbols string) *mtf.List {
	t.Helper()
	l, e := mtf.New(symbols)
	if l == nil || e != api.OK {
		t.Fatalf("New(%q): %v", symbols, e)
	}
	wantOrder(t, l, symbols)
	return l
}

// wantOrder fails unless a list has these symbols in this order; asked twice, for looking changes nothing.
func wantOrder(t *testing.T, l *mtf.List, want string) {
	t.Helper()
	for range 2 {
		if s, n := l.Text(), l.Len(); s != want || n != len(want) {
			t.Fatalf("the list is %q of %d, not %q", s, n, want)
		}
	}
}

// wantFind fails unless Find tells this.
func wantFind(t *testing.T, l *mtf.List, b byte, want int, err api.Errno) {
	t.Helper()
	if i, e := l.Find(b); i != want || e != err {
		t.Fatalf("Find(%q): %d, %v, not %d, %v", b, i, e, want, err)
	}
}

// wantAt fails unless At tells this.
func wantAt(t *testing.T, l *mtf.List, i int, want byte, err api.Errno) {
	t.Helper()
	if b, e := l.At(i); b != want || e != err {
		t.Fatalf("At(%d): %q, %v, not %q, %v", i, b, e, want, err)
	}
}

// 6.1: a list of a row of symbols has them in their order; of another text there is none.
func TestNew(t *testing.T) {
	for _, s := range []string{"a", "ab", "abn", "\x00", "\xff", "\x00\xff", "\x7f\x80", whole(), whole()[1:], whole()[:255]} {
		list(t, s)
	}
	for _, s := range noRows() {
		if l, e := mtf.New(s); l != nil || e != api.ErrArg {
			t.Fatalf("New(%q): %v, %v", s, l, e)
		}
	}
}

// 6.1: Find tells a place, and the symbol goes to the front.
func TestFind(t *testing.T) {
	l := list(t, "abcde")
	for _, c := range []struct {
		b    byte
		want int
		text string
	}{
		{'a', 0, "abcde"}, {'e', 4, "eabcd"}, {'e', 0, "eabcd"}, {'d', 4, "deabc"}, {'a', 2, "adebc"}, {'c', 4, "cadeb"},
		{'a', 1, "acdeb"}, {'b', 4, "bacde"}, {'c', 2, "cbade"}, {'c', 0, "cbade"}, {'d', 3, "dcbae"},
	} {
		wantFind(t, l, c.b, c.want, api.OK)
		wantOrder(t, l, c.text)
	}
}

// 6.1: what is not there is not found, and changes nothing.
func TestFindNone(t *testing.T) {
	l := list(t, "\x01b\xfe")
	wantFind(t, l, '\xfe', 2, api.OK)
	for b := range 256 {
		if !strings.Contains("\x01b\xfe", one(b)) {
			wantFind(t, l, byte(b), 0, api.ErrNone)
			wantOrder(t, l, "\xfe\x01b")
		}
	}
	wantFind(t, l, 'b', 2, api.OK)
	wantFind(t, list(t, "a"), 0, 0, api.ErrNone) // a list is no longer than its symbols
	wantFind(t, list(t, whole()[1:]), 0, 0, api.ErrNone)
	wantFind(t, list(t, whole()[:255]), 0xff, 0, api.ErrNone)
}

// 6.1: At tells a symbol, which goes to the front.
func TestAt(t *testing.T) {
	l := list(t, "abcde")
	for _, c := range []struct {
		i    int
		want byte
		text string
	}{
		{0, 'a', "abcde"}, {4, 'e', "eabcd"}, {0, 'e', "eabcd"}, {1, 'a', "aebcd"}, {4, 'd', "daebc"}, {2, 'e', "edabc"}, {3, 'b', "bedac"},
	} {
		wantAt(t, l, c.i, c.want, api.OK)
		wantOrder(t, l, c.text)
	}
}

// 6.1: a place is from 0 to Len less 1; another one changes nothing.
func TestAtNone(t *testing.T) {
	for _, symbols := range []string{"a", "ab", "abcde", whole()[:255], whole()} {
		l := list(t, symbols)
		n := len(symbols)
		wantAt(t, l, n-1, symbols[n-1], api.OK)
		order := touched(symbols, n-1)
		for _, i := range []int{-1, -2, -n, -256, n, n + 1, 2*n + 1, 256, 257, 511, 512, 1 << 31, 1 << 32, 1<<32 + 1, 1<<63 - 1, -1 << 63, -1<<63 + 1, -1 << 32} {
			wantAt(t, l, i, 0, api.ErrArg)
			wantOrder(t, l, order)
		}
	}
}

// 6.1: of nil there is nothing.
func TestNil(t *testing.T) {
	var l *mtf.List
	for range 2 {
		wantOrder(t, l, "")
		wantFind(t, l, 'a', 0, api.ErrState)
		wantFind(t, l, 0, 0, api.ErrState)
		wantAt(t, l, 0, 0, api.ErrState)
		wantAt(t, l, -1, 0, api.ErrState)
	}
}

// 6.1: each place of a list of all bytes, and each symbol.
func TestEachPlace(t *testing.T) {
	all := whole()
	for i := range all {
		l := list(t, all)
		wantAt(t, l, i, all[i], api.OK)
		wantOrder(t, l, touched(all, i))
		wantFind(t, l, all[i], 0, api.OK)
		m := list(t, all)
		wantFind(t, m, all[i], i, api.OK)
		wantOrder(t, m, touched(all, i))
		wantAt(t, m, 0, all[i], api.OK)
	}
	// The last one, again and again, turns the list round.
	l := list(t, all)
	for i := range 512 {
		wantAt(t, l, 255, all[255-i%256], api.OK)
	}
	wantOrder(t, l, all)
}

// 6.1: many calls of any kind, told by an order that is written anew each time.
func TestMany(t *testing.T) {
	random := rand.New(rand.NewSource(1))
	for range 200 {
		order := someRow(random)
		l := list(t, order)
		for range 200 {
			i, b := random.Intn(len(order)+2)-1, random.Intn(256)
			if place := strings.IndexByte(order, byte(b)); random.Intn(2) == 0 && place < 0 {
				wantFind(t, l, byte(b), 0, api.ErrNone)
			} else if i < 0 || i >= len(order) {
				wantAt(t, l, i, 0, api.ErrArg)
			} else if random.Intn(2) == 0 {
				wantAt(t, l, i, order[i], api.OK)
				order = touched(order, i)
			} else {
				wantFind(t, l, order[i], i, api.OK)
				order = touched(order, i)
			}
			wantOrder(t, l, order)
		}
	}
}

// 6.1: lists are apart, and a text that was told stays (R3).
func TestApart(t *testing.T) {
	symbols := "abc"
	l, m := list(t, symbols), list(t, symbols)
	before := l.Text()
	wantFind(t, l, 'c', 2, api.OK)
	wantOrder(t, l, "cab")
	wantOrder(t, m, "abc")
	wantAt(t, m, 1, 'b', api.OK)
	wantOrder(t, l, "cab")
	wantOrder(t, m, "bac")
	if before != "abc" || symbols != "abc" {
		t.Fatalf("told before: %q of %q", before, symbols)
	}
}

// 6.4: two lists that were touched at the same places have the same order of places.
func TestSamePlaces(t *testing.T) {
	random := rand.New(rand.NewSource(2))
	for range 200 {
		n := 1 + random.Intn(128)
		low, high := whole()[:n], whole()[256-n:]
		l, m := list(t, low), list(t, high)
		for range 50 {
			i := random.Intn(n)
			b, e := l.At(i)
			wantAt(t, m, i, b+high[0], e)
		}
		for i := range n {
			if l.Text()[i]+high[0] != m.Text()[i] {
				t.Fatalf("of %d symbols: %q and %q", n, l.Text(), m.Text())
			}
		}
	}
}
