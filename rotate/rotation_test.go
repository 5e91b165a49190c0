package rotate_test

import (
	"math/rand"
	"strings"
	"testing"

	"baler/api"
	"baler/rotate"
)

// least and greatest are the ends of all numbers.
const (
	least    = -1 << 63
	greatest = 1<<63 - 1
)

// short is a text to be shown.
func short(s string) string { return s[:min(len(s), 40)] }

// eachText calls with all texts of n bytes out of those of an alphabet.
func eachText(n int, alphabet string, each func(string)) {
	if n == 0 {
		each("")
		return
	}
	eachText(n-1, alphabet, func(s string) {
		for i := range len(alphabet) {
			each(s + alphabet[i:i+1])
		}
	})
}

// eachShort calls with all texts of few bytes, among them the least byte and the greatest.
func eachShort(each func(string)) {
	for n := range 9 {
		eachText(n, "\x00\xff", each)
	}
	for n := range 6 {
		eachText(n, "a\x80z", each)
	}
}

// someText is a text of n bytes, of which many or few are unlike, and that may have a period.
func someText(random *rand.Rand, n int) string {
	unlike, s := 1+random.Intn(1<<random.Intn(9)), make([]byte, n)
	period := 1 + random.Intn(n)
	for i := range s {
		s[i] = byte(random.Intn(unlike) * 255 / unlike)
		if i >= period && random.Intn(n) > 0 {
			s[i] = s[i-period]
		}
	}
	return string(s)
}

// notPlaces are numbers that are no places of a text of n bytes.
func notPlaces(n int) []int {
	return []int{-1, -2, -n, -n - 1, least, n, n + 1, 2 * n, 1 << 32, 1<<32 + n - 1, greatest}
}

// plainRotation is the rotation of a text at a place, byte by byte.
func plainRotation(s string, i int) string {
	var turned []byte
	for on := range len(s) {
		turned = append(turned, s[(i+on)%len(s)])
	}
	return string(turned)
}

// wantPair fails unless two places of a text are told to stand as their rotations do.
func wantPair(t *testing.T, s string, i, k int) {
	t.Helper()
	want := strings.Compare(plainRotation(s, i), plainRotation(s, k))
	if c, e := rotate.Compare(s, i, k); c != want || e != api.OK {
		t.Fatalf("Compare(%q, %d, %d): %d, %v, not %d", short(s), i, k, c, e, want)
	}
	ahead := want < 0 || want == 0 && i < k
	if rotate.Ahead(s, i, k) != ahead {
		t.Fatalf("Ahead(%q, %d, %d): not %v", short(s), i, k, ahead)
	}
}

// wantRotation fails unless a text's rotation is told as it is.
func wantRotation(t *testing.T, s string, i int) {
	t.Helper()
	if turned, e := rotate.Rotation(s, i); turned != plainRotation(s, i) || e != api.OK {
		t.Fatalf("Rotation(%q, %d): %q, %v", short(s), i, short(turned), e)
	}
}

// 15.1: rotations by hand, and how they stand.
func TestRotation(t *testing.T) {
	for i, want := range []string{"banana", "ananab", "nanaba", "anaban", "nabana", "abanan"} {
		if turned, e := rotate.Rotation("banana", i); turned != want || e != api.OK {
			t.Errorf("Rotation(%d): %q, %v", i, turned, e)
		}
	}
	for _, c := range []struct {
		s          string
		i, k, want int
		ahead      bool
	}{
		{"a", 0, 0, 0, false}, {"ab", 0, 1, -1, true}, {"ab", 1, 0, 1, false}, {"aa", 0, 1, 0, true}, {"aa", 1, 0, 0, false}, {"aa", 1, 1, 0, false},
		{"banana", 5, 3, -1, true}, {"banana", 3, 5, 1, false}, {"banana", 1, 3, 1, false}, {"banana", 4, 2, -1, true},
		{"abab", 0, 2, 0, true}, {"abab", 2, 0, 0, false}, {"abab", 3, 1, 0, false}, {"abab", 2, 1, -1, true},
		{"\x7f\x80", 0, 1, -1, true}, {"\x80\x7f", 0, 1, 1, false}, {"\x00\xff", 1, 0, 1, false}, {"\xc3\xa9z", 0, 2, 1, false},
	} {
		if n, e := rotate.Compare(c.s, c.i, c.k); n != c.want || e != api.OK {
			t.Errorf("Compare(%q, %d, %d): %d, %v", c.s, c.i, c.k, n, e)
		}
		if rotate.Ahead(c.s, c.i, c.k) != c.ahead {
			t.Errorf("Ahead(%q, %d, %d)", c.s, c.i, c.k)
		}
	}
}

// 15.1: all places of all short texts, and of longer ones.
func TestRotationMany(t *testing.T) {
	eachShort(func(s string) {
		for i := range len(s) {
			wantRotation(t, s, i)
			for k := range len(s) {
				wantPair(t, s, i, k)
			}
		}
	})
	random := rand.New(rand.NewSource(1))
	for range 2000 {
		s := someText(random, 1+random.Intn(200))
		i, k := random.Intn(len(s)), random.Intn(len(s))
		wantRotation(t, s, i)
		wantPair(t, s, i, k)
		wantPair(t, s, len(s)-1, k)
	}
}

// 15.1: what is no place is told, whichever of both it is, and nothing beside (R4); of the empty text no number is one.
func TestNoPlace(t *testing.T) {
	for _, s := range []string{"", "a", "ab", "aaaa", "banana", strings.Repeat("xy", 5000)} {
		bad := notPlaces(len(s))
		if s == "" {
			bad = append(bad, 0)
		}
		for _, i := range bad {
			if turned, e := rotate.Rotation(s, i); turned != "" || e != api.ErrArg {
				t.Errorf("Rotation(%q, %d): %q, %v", short(s), i, short(turned), e)
			}
			for _, k := range append(bad, 0, len(s)/2, len(s)-1) {
				for _, pair := range [][2]int{{i, k}, {k, i}} {
					if n, e := rotate.Compare(s, pair[0], pair[1]); n != 0 || e != api.ErrArg {
						t.Errorf("Compare(%q, %d, %d): %d, %v", short(s), pair[0], pair[1], n, e)
					}
					if rotate.Ahead(s, pair[0], pair[1]) {
						t.Errorf("Ahead(%q, %d, %d)", short(s), pair[0], pair[1])
					}
				}
			}
		}
	}
}

// 15.1: rotations of a long text that are unlike in one byte alone.
func TestRotationLong(t *testing.T) {
	s := strings.Repeat("a", 899999) + "b"
	wantRotation(t, s, 450000)
	wantRotation(t, s, 899999)
	wantPair(t, s, 0, 1)
	wantPair(t, s, 899999, 899998)
	wantPair(t, s, 899998, 0)
	wantPair(t, s[:899999], 899998, 899997)
}

// 15.3 and 15.4: two rotations are the same just if their places differ by a multiple of the period; of two places one is ahead.
func TestPairs(t *testing.T) {
	check := func(s string, i, k int) {
		c, _ := rotate.Compare(s, i, k)
		if (c == 0) != ((i-k)%rotate.Period(s) == 0) {
			t.Fatalf("%q: Compare(%d, %d) is %d, and the period %d", s, i, k, c, rotate.Period(s))
		}
		if back, _ := rotate.Compare(s, k, i); back != -c {
			t.Fatalf("%q: Compare(%d, %d) is %d, and the other way round %d", s, i, k, c, back)
		}
		if one, other := rotate.Ahead(s, i, k), rotate.Ahead(s, k, i); i != k && one == other || i == k && one {
			t.Fatalf("%q: Ahead(%d, %d) is %v, and the other way round %v", s, i, k, one, other)
		}
	}
	each := func(s string) {
		for i := range len(s) {
			for k := range len(s) {
				check(s, i, k)
			}
		}
	}
	eachShort(each)
	random := rand.New(rand.NewSource(2))
	for range 200 {
		each(strings.Repeat(someText(random, 1+random.Intn(8)), 1+random.Intn(5)))
	}
}
