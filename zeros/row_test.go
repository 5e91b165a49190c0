package zeros_test

import (
	"math/bits"
	"math/rand"
	"slices"
	"testing"

	"baler/api"
	"baler/zeros"
)

// least and greatest are the ends of all numbers.
const (
	least    = -1 << 63
	greatest = 1<<63 - 1
)

// worth is how many places a row of codes 0 and 1 stands for, code by code, as the chapter tells it.
func worth(codes []int) int {
	m, power := 0, 1
	for _, code := range codes {
		if code == 0 {
			m += power
		} else {
			m += 2 * power
		}
		power *= 2
	}
	return m
}

// plainRow are the codes of a row: the digits of one more, the least first, without the highest.
func plainRow(m int) []int {
	var codes []int
	for i := range bits.Len(uint(m+1)) - 1 {
		codes = append(codes, (m+1)>>i&1)
	}
	return codes
}

// plain are places as codes: at each place 0 that begins a row, the row's end is looked for.
func plain(places []int, n int) []int {
	var codes []int
	for i := 0; i < len(places); i++ {
		to := i
		for to < len(places) && places[to] == 0 {
			to++
		}
		if to > i {
			codes = append(codes, plainRow(to-i)...)
			i = to - 1
		} else {
			codes = append(codes, places[i]+1)
		}
	}
	return append(codes, n+1)
}

// somePlaces are places of n symbols, with rows of 0 of many lengths.
func somePlaces(random *rand.Rand, n int) []int {
	var places []int
	for range random.Intn(40) {
		if random.Intn(2) == 0 {
			places = append(places, make([]int, random.Intn(1<<random.Intn(9)))...)
		} else {
			places = append(places, random.Intn(n))
		}
	}
	return places
}

// short are numbers to be shown.
func short(l []int) []int { return l[:min(len(l), 30)] }

// wantRow fails unless these are a row's codes.
func wantRow(t *testing.T, m int, want []int) {
	t.Helper()
	if l, e := zeros.Row(m); !slices.Equal(l, want) || e != api.OK {
		t.Fatalf("Row(%d): %v, %v, not %v", m, l, e, want)
	}
}

// wantEncode fails unless Encode tells this, and leaves its places as they are.
func wantEncode(t *testing.T, places []int, n int, want []int, err api.Errno) {
	t.Helper()
	before := slices.Clone(places)
	if l, e := zeros.Encode(places, n); !slices.Equal(l, want) || e != err {
		t.Fatalf("Encode(%v, %d): %v, %v, not %v, %v", short(places), n, short(l), e, short(want), err)
	}
	if !slices.Equal(places, before) {
		t.Fatalf("Encode changed %v to %v", short(before), short(places))
	}
}

// 7.1: rows by hand.
func TestRowByHand(t *testing.T) {
	for i, want := range [][]int{{0}, {1}, {0, 0}, {1, 0}, {0, 1}, {1, 1}, {0, 0, 0}, {1, 0, 0}, {0, 1, 0}, {1, 1, 0}, {0, 0, 1}, {1, 0, 1}, {0, 1, 1}, {1, 1, 1}, {0, 0, 0, 0}} {
		wantRow(t, i+1, want)
	}
	wantRow(t, 21, []int{0, 1, 1, 0})
	wantRow(t, 100, []int{1, 0, 1, 0, 0, 1})
	wantRow(t, 1000, []int{1, 0, 0, 1, 0, 1, 1, 1, 1}) // 2, 2, 4, 16, 16, 64, 128, 256 and 512
}

// 7.1: each row's codes are 0 and 1, together they are the row, and there is no other row of codes of it.
func TestRow(t *testing.T) {
	lengths := []int{api.MaxInt, api.MaxInt - 1, api.MaxInt/2 + 1}
	for m := 1; m <= 5000; m++ {
		lengths = append(lengths, m)
	}
	for i := 1; i < 40; i++ {
		lengths = append(lengths, 1<<i-2, 1<<i-1, 1<<i, 1<<i+1, 3<<(i-1))
	}
	for _, m := range lengths {
		if m < 1 || m > api.MaxInt {
			continue
		}
		l, e := zeros.Row(m)
		for _, code := range l {
			if code != 0 && code != 1 {
				t.Fatalf("Row(%d): %v", m, l)
			}
		}
		if e != api.OK || worth(l) != m {
			t.Fatalf("Row(%d): %v, %v, which is %d", m, l, e, worth(l))
		}
		wantRow(t, m, plainRow(m))
	}
}

// 7.1: the longest row has forty codes: all are 0, but the first one.
func TestLongestRow(t *testing.T) {
	want := make([]int, 40)
	want[0] = 1
	wantRow(t, api.MaxInt, want)
	wantRow(t, api.MaxInt-1, make([]int, 40))
}

// 7.1: no row, and one that is too long.
func TestRowNone(t *testing.T) {
	for _, m := range []int{0, -1, -2, -3, least, least + 1, api.MaxInt + 1, api.MaxInt + 2, 2 * api.MaxInt, greatest, greatest - 1} {
		if l, e := zeros.Row(m); len(l) != 0 || e != api.ErrArg {
			t.Errorf("Row(%d): %v, %v", m, l, e)
		}
	}
}

// 7.1: the example of the chapter, and others by hand.
func TestEncodeByHand(t *testing.T) {
	for _, c := range []struct {
		places []int
		n      int
		want   []int
	}{
		{[]int{0, 0, 0, 0, 2}, 3, []int{1, 0, 3, 4}}, {nil, 1, []int{2}}, {nil, 256, []int{257}}, {[]int{}, 3, []int{4}},
		{[]int{0}, 1, []int{0, 2}}, {[]int{0, 0}, 1, []int{1, 2}}, {[]int{0, 0, 0}, 1, []int{0, 0, 2}}, {[]int{0}, 2, []int{0, 3}},
		{[]int{1}, 2, []int{2, 3}}, {[]int{1, 1}, 2, []int{2, 2, 3}}, {[]int{0, 1}, 2, []int{0, 2, 3}}, {[]int{1, 0}, 2, []int{2, 0, 3}},
		{[]int{255}, 256, []int{256, 257}}, {[]int{255, 0, 0, 254, 1}, 256, []int{256, 1, 255, 2, 257}},
		{[]int{0, 1, 0, 1, 0}, 2, []int{0, 2, 0, 2, 0, 3}}, {[]int{1, 0, 0, 1, 0, 0, 0, 0, 0}, 3, []int{2, 1, 2, 0, 1, 4}},
		{[]int{0, 0, 3, 0, 1, 0, 0, 0}, 4, []int{1, 4, 0, 2, 0, 0, 5}}, {[]int{2, 1}, 3, []int{3, 2, 4}},
	} {
		wantEncode(t, c.places, c.n, c.want, api.OK)
	}
}

// 7.1: each place of each number of symbols, and the end.
func TestEncodeEach(t *testing.T) {
	for n := 1; n <= 256; n++ {
		for place := 1; place < n; place++ {
			wantEncode(t, []int{place}, n, []int{place + 1, n + 1}, api.OK)
		}
		wantEncode(t, []int{0}, n, []int{0, n + 1}, api.OK)
	}
}

// 7.1: rows of 0 are as long as can be: alone, ahead of a place, and behind one.
func TestEncodeRows(t *testing.T) {
	for m := 1; m < 1100; m++ {
		row := plainRow(m)
		wantEncode(t, make([]int, m), 1, append(slices.Clone(row), 2), api.OK)
		wantEncode(t, append(make([]int, m), 4), 5, append(slices.Clone(row), 5, 6), api.OK)
		wantEncode(t, append([]int{4}, make([]int, m)...), 5, append(append([]int{5}, row...), 6), api.OK)
	}
	m := 1 << 20
	wantEncode(t, make([]int, m), 1, append(plainRow(m), 2), api.OK)
}

// 7.1: a number of symbols that may not be, of any places.
func TestEncodeNoSize(t *testing.T) {
	for _, n := range []int{0, -1, -256, 257, 258, 1000, 1 << 32, 1<<32 + 1, greatest, least} {
		for _, places := range [][]int{nil, {0}, {1}, {-1}, {300}} {
			wantEncode(t, places, n, nil, api.ErrArg)
		}
	}
}

// 7.1: what is no place, first, last or between, and nothing beside the error.
func TestEncodeNone(t *testing.T) {
	for _, n := range []int{1, 2, 5, 255, 256} {
		for _, bad := range []int{-1, -2, least, n, n + 1, n + 2, 257, 1 << 32, greatest} {
			for _, places := range [][]int{{bad}, {bad, 0}, {0, bad}, {0, n - 1, bad}, {n - 1, bad, 0, 0}, {bad, bad}} {
				wantEncode(t, places, n, nil, api.ErrArg)
			}
		}
	}
	wantEncode(t, append(make([]int, 100000), 2), 2, nil, api.ErrArg)
}

// 7.1: many places, told in another way; and 7.5: codes are at most one more.
func TestEncodeMany(t *testing.T) {
	random := rand.New(rand.NewSource(1))
	for range 2000 {
		n := 1 + random.Intn(1<<random.Intn(9))
		places := somePlaces(random, n)
		want := plain(places, n)
		wantEncode(t, places, n, want, api.OK)
		if len(want) > len(places)+1 {
			t.Fatalf("%d codes of %d places", len(want), len(places))
		}
	}
}

// 7.5: as many codes as places and one, if no row of 0 is longer than 1; fewer else.
func TestHowManyCodes(t *testing.T) {
	for m := range 600 {
		l, _ := zeros.Encode(make([]int, m), 7)
		if len(l) > m+1 || m >= 2 && len(l) == m+1 {
			t.Fatalf("%d codes of %d places 0", len(l), m)
		}
		ones := slices.Repeat([]int{1}, m)
		if l, _ = zeros.Encode(ones, 7); len(l) != m+1 {
			t.Fatalf("%d codes of %d places 1", len(l), m)
		}
		mixed := slices.Repeat([]int{0, 1}, m)
		if l, _ = zeros.Encode(mixed, 7); len(l) != 2*m+1 {
			t.Fatalf("%d codes of %d places 0 and 1", len(l), 2*m)
		}
	}
}

// R3: answers share no memory.
func TestAnswersApart(t *testing.T) {
	for _, f := range []func() []int{
		func() []int { l, _ := zeros.Row(100); return l },
		func() []int { l, _ := zeros.Encode([]int{0, 0, 2, 0, 1}, 3); return l },
		func() []int { l, _ := zeros.Decode([]int{1, 3, 0, 2, 4}, 3, 5); return l },
	} {
		first, second := f(), f()
		before := slices.Clone(second)
		for i := range first {
			first[i] = 77
		}
		if len(first) == 0 || !slices.Equal(second, before) || !slices.Equal(f(), before) {
			t.Errorf("%v became %v", before, second)
		}
	}
}
