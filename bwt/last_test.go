package bwt_test

import (
	"math/rand"
	"slices"
	"sort"
	"strings"
	"testing"

	"baler/api"
	"baler/bwt"
)

// least and greatest are the ends of all numbers.
const (
	least    = -1 << 63
	greatest = 1<<63 - 1
)

// short is a text to be shown.
func short(s string) string { return s[:min(len(s), 40)] }

// eachText calls with all texts of n bytes out of those of an alphabet.
func eachText(n int, alphabet string, each func(string)) {
	if n == 0 {
		each("")
		return
	}
	eachText(n-1, alphabet, func(s string) {
		for i := range len(alphabet) {
			each(s + alphabet[i:i+1])
		}
	})
}

// eachShort calls with all texts of few bytes, but the empty one.
func eachShort(each func(string)) {
	for n := 1; n < 10; n++ {
		eachText(n, "ab", each)
	}
	for n := 1; n < 6; n++ {
		eachText(n, "\x00\x7f\x80\xff", each)
	}
}

// someText is a text of n bytes, of which many or few are unlike, and that may have a period.
func someText(random *rand.Rand, n int) string {
	unlike, s := 1+random.Intn(1<<random.Intn(9)), make([]byte, n)
	period := 1 + random.Intn(n)
	for i := range s {
		s[i] = byte(random.Intn(unlike) * 255 / max(1, unlike-1))
		if i >= period && random.Intn(n) > 0 {
			s[i] = s[i-period]
		}
	}
	return string(s)
}

// plainOrder are a text's sorted places, rotation by rotation.
func plainOrder(s string) []int {
	l := make([]int, len(s))
	for i := range l {
		l[i] = i
	}
	sort.SliceStable(l, func(a, b int) bool {
		return s[l[a]:]+s[:l[a]] < s[l[b]:]+s[:l[b]]
	})
	return l
}

// plainLast are the last bytes of rotations, each made as a whole, and the origin.
func plainLast(s string, order []int) (string, int) {
	var last []byte
	origin := -1
	for rank, i := range order {
		rotation := s[i:] + s[:i]
		last = append(last, rotation[len(s)-1])
		if i == 0 {
			origin = rank
		}
	}
	return string(last), origin
}

// wantFrom fails unless an order's last bytes and origin are told as they are, and the order is left as it is.
func wantFrom(t *testing.T, s string, order []int) {
	t.Helper()
	before := slices.Clone(order)
	want, at := plainLast(s, order)
	last, origin, e := bwt.From(s, order)
	if last != want || origin != at || e != api.OK {
		t.Fatalf("From(%q, %v): %q, %d, %v, not %q, %d", short(s), order[:min(len(order), 40)], short(last), origin, e, short(want), at)
	}
	if !slices.Equal(order, before) {
		t.Fatalf("From changed an order of %q", short(s))
	}
}

// wantNoFrom fails unless an order is refused, with nothing beside (R4).
func wantNoFrom(t *testing.T, s string, order []int) {
	t.Helper()
	if last, origin, e := bwt.From(s, order); last != "" || origin != 0 || e != api.ErrArg {
		t.Fatalf("From(%q, %v): %q, %d, %v", short(s), order[:min(len(order), 40)], short(last), origin, e)
	}
}

// wantOf fails unless a text's last bytes and origin are told as they are.
func wantOf(t *testing.T, s string) {
	t.Helper()
	want, at := plainLast(s, plainOrder(s))
	if last, origin, e := bwt.Of(s); last != want || origin != at || e != api.OK {
		t.Fatalf("Of(%q): %q, %d, %v, not %q, %d", short(s), short(last), origin, e, short(want), at)
	}
}

// eachOrder calls with all orders of places.
func eachOrder(l []int, from int, each func([]int)) {
	if from == len(l) {
		each(l)
		return
	}
	for i := from; i < len(l); i++ {
		l[from], l[i] = l[i], l[from]
		eachOrder(l, from+1, each)
		l[from], l[i] = l[i], l[from]
	}
}

// eachList calls with all lists of so many numbers from -1 to n.
func eachList(n, left int, each func([]int)) {
	if left == 0 {
		each(nil)
		return
	}
	eachList(n, left-1, func(l []int) {
		for v := -1; v <= n; v++ {
			each(append(slices.Clone(l), v))
		}
	})
}

// 17.1: last bytes by hand, of sorted places and of others.
func TestFrom(t *testing.T) {
	for _, c := range []struct {
		s      string
		order  []int
		last   string
		origin int
	}{
		{"banana", []int{5, 3, 1, 0, 4, 2}, "nnbaaa", 3}, {"banana", []int{0, 1, 2, 3, 4, 5}, "abanan", 0}, {"banana", []int{5, 4, 3, 2, 1, 0}, "nanaba", 5},
		{"a", []int{0}, "a", 0}, {"abc", []int{2, 0, 1}, "bca", 1}, {"abc", []int{1, 2, 0}, "abc", 2}, {"\x00\xff", []int{0, 1}, "\xff\x00", 0}, {"\x00\xff", []int{1, 0}, "\x00\xff", 1},
	} {
		if last, origin, e := bwt.From(c.s, c.order); last != c.last || origin != c.origin || e != api.OK {
			t.Errorf("From(%q, %v): %q, %d, %v", c.s, c.order, last, origin, e)
		}
	}
}

// 17.1: all orders of few places.
func TestFromOrders(t *testing.T) {
	for _, s := range []string{"a", "ab", "aa", "abc", "\xff\x00\xff", "abcd", "abab", "abcde", "banana", "abcdefg"} {
		order := plainOrder(s)
		eachOrder(order, 0, func(l []int) { wantFrom(t, s, l) })
	}
}

// 17.1: all lists of a few numbers: those that are no orders of the places are refused, be they too short, too long, or with a place twice.
func TestFromLists(t *testing.T) {
	const text = "abcd"
	for n := 0; n <= len(text); n++ {
		s := text[:n]
		for size := range n + 2 {
			eachList(n, size, func(l []int) {
				sorted := slices.Sorted(slices.Values(l))
				isOrder := n > 0 && size == n
				for i, v := range sorted {
					isOrder = isOrder && v == i
				}
				if isOrder {
					wantFrom(t, s, l)
				} else {
					wantNoFrom(t, s, l)
				}
			})
		}
	}
}

// 17.1: what is off in a long order by one number.
func TestFromOff(t *testing.T) {
	random := rand.New(rand.NewSource(1))
	for range 300 {
		s := someText(random, 2+random.Intn(200))
		n := len(s)
		order := random.Perm(n)
		wantFrom(t, s, order)
		wantNoFrom(t, s, order[1:])
		wantNoFrom(t, s, order[:n-1])
		wantNoFrom(t, s, append(slices.Clone(order), n))
		wantNoFrom(t, s, append(slices.Clone(order), order[0]))
		wantNoFrom(t, s[1:], order)
		wantNoFrom(t, "", order)
		at := random.Intn(n)
		for _, bad := range []int{-1, -n, least, n, n + 1, 1 << 32, 1<<32 + order[at], greatest, order[(at+1)%n]} {
			other := slices.Clone(order)
			other[at] = bad
			wantNoFrom(t, s, other)
		}
	}
	wantNoFrom(t, "", nil)
	wantNoFrom(t, "", []int{})
	wantNoFrom(t, "", []int{0})
	wantNoFrom(t, "", []int{-1})
}

// 17.1: by an order a text may have more bytes than a sorter takes.
func TestFromLong(t *testing.T) {
	random := rand.New(rand.NewSource(2))
	const n = 1000003
	s, order := someText(random, n), random.Perm(n)
	last, origin, e := bwt.From(s, order)
	if e != api.OK || len(last) != n || order[origin] != 0 {
		t.Fatalf("%d last bytes, the origin %d, %v", len(last), origin, e)
	}
	for rank, i := range order {
		if last[rank] != s[(i+n-1)%n] {
			t.Fatalf("the last byte at %d: %d, not %d", rank, last[rank], s[(i+n-1)%n])
		}
	}
	order[n-1] = order[0]
	wantNoFrom(t, s, order)
}

// 17.1: the document's example, and others by hand.
func TestOf(t *testing.T) {
	for _, c := range []struct {
		s, last string
		origin  int
	}{
		{"banana", "nnbaaa", 3}, {"a", "a", 0}, {"\x00", "\x00", 0}, {"ab", "ba", 0}, {"ba", "ba", 1}, {"aa", "aa", 0}, {"abab", "bbaa", 0}, {"baba", "bbaa", 2},
		{"mississippi", "pssmipissii", 4}, {"aaaa", "aaaa", 0}, {"\x80\x7f\xff\x00", "\xff\x80\x00\x7f", 2},
	} {
		if last, origin, e := bwt.Of(c.s); last != c.last || origin != c.origin || e != api.OK {
			t.Errorf("Of(%q): %q, %d, %v", c.s, last, origin, e)
		}
	}
}

// 17.1: all short texts, and longer ones.
func TestOfMany(t *testing.T) {
	eachShort(func(s string) { wantOf(t, s) })
	random := rand.New(rand.NewSource(3))
	for range 300 {
		s := someText(random, 1+random.Intn(300))
		wantOf(t, s)
		wantOf(t, strings.Repeat(s, 1+random.Intn(4)))
	}
}

// 17.1 and 17.2: the empty text, and one that is too long for a sorter, are refused, with nothing beside (R4); the longest ones are not.
func TestRefused(t *testing.T) {
	s := strings.Repeat("ba", 450001)
	for _, c := range []struct {
		s    string
		want api.Errno
	}{{"", api.ErrArg}, {s[:900001], api.ErrLong}, {s, api.ErrLong}} {
		if last, origin, e := bwt.Of(c.s); last != "" || origin != 0 || e != c.want {
			t.Errorf("Of of %d bytes: %q, %d, %v", len(c.s), short(last), origin, e)
		}
		if x, e := bwt.New(c.s); x != nil || e != c.want {
			t.Errorf("New of %d bytes: %v, %v", len(c.s), x != nil, e)
		}
	}
	for _, n := range []int{1, 899999, 900000} {
		if x, e := bwt.New(s[:n]); x == nil || e != api.OK {
			t.Errorf("New of %d bytes: %v, %v", n, x != nil, e)
		}
	}
}

// 17.1: a text of as many bytes as may be.
func TestOfLongest(t *testing.T) {
	const n = 900000
	last, origin, e := bwt.Of(strings.Repeat("ba", n/2))
	if last != strings.Repeat("b", n/2)+strings.Repeat("a", n/2) || origin != n/2 || e != api.OK {
		t.Errorf("Of: %q, %d, %v", short(last), origin, e)
	}
}

// bytesOf are a text's bytes, sorted.
func bytesOf(s string) string {
	b := []byte(s)
	slices.Sort(b)
	return string(b)
}

// wantLike fails unless the last bytes are those of the text in another order, the rotation at the origin is the text, and of all rotations the last bytes are the same.
func wantLike(t *testing.T, s string) {
	t.Helper()
	last, origin, e := bwt.Of(s)
	if e != api.OK || bytesOf(last) != bytesOf(s) {
		t.Fatalf("Of(%q): %q, %v", short(s), short(last), e)
	}
	if plainOrder(s)[origin] != 0 {
		t.Fatalf("Of(%q): the origin %d", short(s), origin)
	}
	for i := range len(s) {
		if other, _, e := bwt.Of(s[i:] + s[:i]); other != last || e != api.OK {
			t.Fatalf("Of(%q): %q, but %q of the rotation at %d, %v", short(s), short(last), short(other), i, e)
		}
	}
}

// 17.3 and 17.5: last bytes are those of the text, and of any rotation of it the same.
func TestLike(t *testing.T) {
	for n := 1; n < 8; n++ {
		eachText(n, "ab", func(s string) { wantLike(t, s) })
	}
	for n := 1; n < 5; n++ {
		eachText(n, "\x00\x80\xff", func(s string) { wantLike(t, s) })
	}
	random := rand.New(rand.NewSource(4))
	for range 60 {
		wantLike(t, strings.Repeat(someText(random, 1+random.Intn(30)), 1+random.Intn(3)))
	}
}
