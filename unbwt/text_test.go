package unbwt_test

import (
	"math/rand"
	"slices"
	"sort"
	"strings"
	"testing"

	"baler/api"
	"baler/bwt"
	"baler/unbwt"
)

// least and greatest are the ends of all numbers.
const (
	least    = -1 << 63
	greatest = 1<<63 - 1
)

// short is a text to be shown.
func short(s string) string { return s[:min(len(s), 40)] }

// eachText calls with all texts of n bytes out of those of an alphabet.
func eachText(n int, alphabet string, each func(string)) {
	if n == 0 {
		each("")
		return
	}
	eachText(n-1, alphabet, func(s string) {
		for i := range len(alphabet) {
			each(s + alphabet[i:i+1])
		}
	})
}

// eachShort calls with all texts of few bytes, but the empty one.
func eachShort(each func(string)) {
	for n := 1; n < 11; n++ {
		eachText(n, "ab", each)
	}
	for n := 1; n < 7; n++ {
		eachText(n, "\x00\x7f\x80\xff", each)
	}
}

// someText is a text of n bytes, of which many or few are unlike, and that may have a period.
func someText(random *rand.Rand, n int) string {
	unlike, s := 1+random.Intn(1<<random.Intn(9)), make([]byte, n)
	period := 1 + random.Intn(n)
	for i := range s {
		s[i] = byte(random.Intn(unlike) * 255 / max(1, unlike-1))
		if i >= period && random.Intn(n) > 0 {
			s[i] = s[i-period]
		}
	}
	return string(s)
}

// plainLinks are places, sorted by their bytes.
func plainLinks(last string) []int {
	l := make([]int, len(last))
	for i := range l {
		l[i] = i
	}
	sort.SliceStable(l, func(a, b int) bool { return last[l[a]] < last[l[b]] })
	return l
}

// plainText is the text of last bytes, followed from an origin.
func plainText(last string, origin int) string {
	links, place := plainLinks(last), origin
	var s []byte
	for range len(last) {
		place = links[place]
		s = append(s, last[place])
	}
	return string(s)
}

// wantOf fails unless the text of last bytes is told as it is, from each origin, and the links, too.
func wantOf(t *testing.T, last string, origins ...int) {
	t.Helper()
	if l := unbwt.Links(last); !slices.Equal(l, plainLinks(last)) {
		t.Fatalf("Links(%q): %v", short(last), l[:min(len(l), 40)])
	}
	for _, origin := range origins {
		if s, e := unbwt.Of(last, origin); s != plainText(last, origin) || e != api.OK {
			t.Fatalf("Of(%q, %d): %q, %v, not %q", short(last), origin, short(s), e, short(plainText(last, origin)))
		}
	}
}

// upTo are the numbers from 0 on, below n.
func upTo(n int) []int { return plainLinks(strings.Repeat("a", n)) }

// 18.1: links by hand.
func TestLinks(t *testing.T) {
	for _, c := range []struct {
		last string
		want []int
	}{
		{"", nil}, {"a", []int{0}}, {"aa", []int{0, 1}}, {"ab", []int{0, 1}}, {"ba", []int{1, 0}}, {"nnbaaa", []int{3, 4, 5, 2, 0, 1}}, {"bbaa", []int{2, 3, 0, 1}},
		{"\xff\x00\x80\x7f\x00", []int{1, 4, 3, 2, 0}},
	} {
		if l := unbwt.Links(c.last); !slices.Equal(l, c.want) {
			t.Errorf("Links(%q): %v, not %v", c.last, l, c.want)
		}
	}
}

// 18.1: texts by hand, the document's example among them; also where the links go round in more than one ring, so that not all bytes are met.
func TestOf(t *testing.T) {
	for _, c := range []struct {
		last   string
		origin int
		want   string
	}{
		{"nnbaaa", 3, "banana"}, {"nnbaaa", 0, "abanan"}, {"nnbaaa", 5, "nanaba"}, {"a", 0, "a"}, {"\x00", 0, "\x00"}, {"bbaa", 0, "abab"}, {"bbaa", 2, "baba"}, {"bbaa", 1, "abab"},
		{"pssmipissii", 4, "mississippi"}, {"aaaa", 2, "aaaa"}, {"ab", 0, "aa"}, {"ab", 1, "bb"}, {"ba", 0, "ab"}, {"ba", 1, "ba"}, {"acb", 0, "aaa"}, {"acb", 1, "bcb"}, {"acb", 2, "cbc"},
		{"\xff\x80\x00\x7f", 2, "\x80\x7f\xff\x00"},
	} {
		if s, e := unbwt.Of(c.last, c.origin); s != c.want || e != api.OK {
			t.Errorf("Of(%q, %d): %q, %v, not %q", c.last, c.origin, s, e, c.want)
		}
	}
}

// 18.1: all short last bytes from all origins, and longer ones.
func TestOfMany(t *testing.T) {
	eachShort(func(last string) { wantOf(t, last, upTo(len(last))...) })
	random := rand.New(rand.NewSource(1))
	for range 500 {
		last := someText(random, 1+random.Intn(600))
		wantOf(t, last, 0, len(last)-1, random.Intn(len(last)), random.Intn(len(last)))
	}
	var all []byte
	for b := range 256 {
		all = append(all, byte(255-b))
	}
	for range 3 {
		wantOf(t, string(all), upTo(len(all))...)
		all = append(all, all...)
	}
}

// 18.1: what is refused, the first error first, with nothing beside (R4).
func TestRefused(t *testing.T) {
	long := strings.Repeat("ba", 450001)
	for _, c := range []struct {
		last    string
		origins []int
		want    api.Errno
	}{
		{"", []int{0, -1, 1, least, greatest}, api.ErrArg},
		{long, []int{0, 1, 900000, -1, 900001, 900002, least, greatest}, api.ErrLong}, {long[1:], []int{0, 899999, 900000, -1, 900001}, api.ErrLong},
		{long[:900000], []int{-1, 900000, 900001, least, greatest}, api.ErrOrig}, {"a", []int{-1, 1, 2, 1 << 32, least, greatest}, api.ErrOrig},
		{"nnbaaa", []int{-1, 6, 7, -6, 1<<32 + 3, least + 3, greatest}, api.ErrOrig},
	} {
		for _, origin := range c.origins {
			if s, e := unbwt.Of(c.last, origin); s != "" || e != c.want {
				t.Errorf("Of of %d bytes from %d: %q, %v, not %v", len(c.last), origin, short(s), e, c.want)
			}
			if v, e := unbwt.New(c.last, origin); v != nil || e != c.want {
				t.Errorf("New of %d bytes from %d: %v, %v, not %v", len(c.last), origin, v != nil, e, c.want)
			}
		}
	}
	for _, origin := range []int{0, 1, 899999} {
		if v, e := unbwt.New(long[:900000], origin); v == nil || e != api.OK {
			t.Errorf("New from %d: %v, %v", origin, v != nil, e)
		}
	}
}

// 18.1: as many bytes as may be, all of them as they are told; links of more bytes, too.
func TestLongest(t *testing.T) {
	random := rand.New(rand.NewSource(2))
	s := someText(random, 900000)
	wantOf(t, s, 0, 899999, 450000)
	wantOf(t, strings.Repeat("b", 450000)+strings.Repeat("a", 450000), 1)
	wantOf(t, someText(random, 900001))
	wantOf(t, someText(random, 2000003))
}

// 18.1: a change of links that were told changes none that are told later (R3).
func TestLinksApart(t *testing.T) {
	clear(unbwt.Links("nnbaaa"))
	wantOf(t, "nnbaaa", 3)
}

// 18.3: of a text's last bytes and origin the text comes back.
func TestBack(t *testing.T) {
	check := func(s string) {
		last, origin, e := bwt.Of(s)
		if e != api.OK {
			t.Fatalf("bwt.Of(%q): %v", short(s), e)
		}
		if back, e := unbwt.Of(last, origin); back != s || e != api.OK {
			t.Fatalf("%q: %q, %v came back of %q, %d", short(s), short(back), e, short(last), origin)
		}
	}
	eachShort(check)
	random := rand.New(rand.NewSource(3))
	for range 300 {
		s := someText(random, 1+random.Intn(1000))
		check(s)
		check(strings.Repeat(s, 1+random.Intn(4)))
	}
	check(someText(random, 900000))
	check(strings.Repeat("hello ", 150000))
}

// 18.5: the links have each place once; the text has as many bytes as last, and none that is not there.
func TestLike(t *testing.T) {
	random := rand.New(rand.NewSource(4))
	check := func(last string) {
		links := unbwt.Links(last)
		slices.Sort(links)
		if !slices.Equal(links, upTo(len(last))) {
			t.Fatalf("Links(%q): sorted %v", short(last), links[:min(len(links), 40)])
		}
		s, e := unbwt.Of(last, random.Intn(len(last)))
		if len(s) != len(last) || e != api.OK {
			t.Fatalf("Of(%q): %d bytes, %v", short(last), len(s), e)
		}
		for i := range len(s) {
			if strings.IndexByte(last, s[i]) < 0 {
				t.Fatalf("Of(%q): %d is not there", short(last), s[i])
			}
		}
	}
	eachShort(check)
	for range 500 {
		check(someText(random, 1+random.Intn(400)))
	}
}
