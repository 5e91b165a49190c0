package zeros_test

import (
	"math/rand"
	"slices"
	"testing"

	"baler/api"
	"baler/zeros"
)

// wantDecode fails unless Decode tells this, and leaves its codes as they are.
func wantDecode(t *testing.T, codes []int, n, most int, want []int, err api.Errno) {
	t.Helper()
	before := slices.Clone(codes)
	if l, e := zeros.Decode(codes, n, most); !slices.Equal(l, want) || e != err {
		t.Fatalf("Decode(%v, %d, %d): %v, %v, not %v, %v", short(codes), n, most, short(l), e, short(want), err)
	}
	if !slices.Equal(codes, before) {
		t.Fatalf("Decode changed %v to %v", short(before), short(codes))
	}
}

// 7.3: the example of the chapter back, and others by hand.
func TestDecodeByHand(t *testing.T) {
	for _, c := range []struct {
		codes   []int
		n, most int
		want    []int
	}{
		{[]int{1, 0, 3, 4}, 3, 5, []int{0, 0, 0, 0, 2}}, {[]int{2}, 1, 0, nil}, {[]int{257}, 256, 0, nil}, {[]int{2}, 1, api.MaxInt, nil},
		{[]int{0, 2}, 1, 1, []int{0}}, {[]int{1, 2}, 1, 2, []int{0, 0}}, {[]int{0, 0, 2}, 1, 3, []int{0, 0, 0}}, {[]int{2, 3}, 2, 1, []int{1}},
		{[]int{256, 1, 255, 2, 257}, 256, 6, []int{255, 0, 0, 254, 1}}, {[]int{2, 0, 3}, 2, 9, []int{1, 0}},
		{[]int{0, 2, 0, 2, 0, 3}, 2, 5, []int{0, 1, 0, 1, 0}}, {[]int{2, 2, 1, 3, 1, 4}, 3, 99, []int{1, 1, 0, 0, 2, 0, 0}},
	} {
		wantDecode(t, c.codes, c.n, c.most, c.want, api.OK)
	}
}

// 7.3: the errors of codes, the first one of them, and nothing beside it.
func TestDecodeWrong(t *testing.T) {
	for _, c := range []struct {
		codes   []int
		n, most int
		want    api.Errno
	}{
		{nil, 1, 5, api.ErrEnd}, {[]int{0}, 1, 5, api.ErrEnd}, {[]int{0, 0, 2}, 4, 5, api.ErrEnd}, {[]int{4}, 4, 5, api.ErrEnd},
		{[]int{5, 0}, 4, 5, api.ErrData}, {[]int{5, 5}, 4, 5, api.ErrData}, {[]int{5, 6}, 4, 5, api.ErrData}, {[]int{5, -1}, 4, 5, api.ErrData},
		{[]int{5, 2}, 4, 0, api.ErrData}, {[]int{0, 5, 1}, 4, 1, api.ErrData}, {[]int{5, 2, 5}, 4, 5, api.ErrData},
		{[]int{6}, 4, 5, api.ErrData}, {[]int{-1, 5}, 4, 5, api.ErrData}, {[]int{0, 6, 5}, 4, 5, api.ErrData}, {[]int{3}, 1, 5, api.ErrData}, {[]int{258}, 256, 5, api.ErrData},
		{[]int{greatest}, 256, 5, api.ErrData}, {[]int{least}, 256, 5, api.ErrData}, {[]int{6}, 4, 0, api.ErrData},
		{[]int{1, 1, 5}, 4, 5, api.ErrLong}, {[]int{0, 0, 2, 5}, 4, 3, api.ErrLong}, {[]int{2, 5}, 4, 0, api.ErrLong}, {[]int{0, 5}, 4, 0, api.ErrLong},
		{[]int{0, 0, 5}, 4, 2, api.ErrLong}, {[]int{1, 1, 6}, 4, 5, api.ErrLong}, {[]int{6, 1, 1}, 4, 5, api.ErrData}, {[]int{1, 1}, 4, 5, api.ErrLong},
		{[]int{2, 2, 2}, 4, 2, api.ErrLong}, {[]int{2, 2}, 4, 2, api.ErrEnd},
	} {
		wantDecode(t, c.codes, c.n, c.most, nil, c.want)
	}
}

// 7.3, R1: a reader that there is none of is told ahead of what the codes are.
func TestDecodeNoReader(t *testing.T) {
	for _, codes := range [][]int{nil, {0}, {-1}, {5, 5}, {1, 1, 1}} {
		wantDecode(t, codes, 0, 5, nil, api.ErrArg)
		wantDecode(t, codes, 257, 5, nil, api.ErrArg)
		wantDecode(t, codes, 3, -1, nil, api.ErrArg)
		wantDecode(t, codes, 3, api.MaxInt+1, nil, api.ErrArg)
	}
}

// 7.3: rows that are refused, however long they'd be; and an answer beyond the document's bound doesn't kill (R1).
func TestDecodeLongest(t *testing.T) {
	row := plainRow(api.MaxInt)
	behind := func(codes ...int) []int { return append(slices.Clone(row), codes...) }
	wantDecode(t, row, 5, api.MaxInt, nil, api.ErrEnd)
	wantDecode(t, behind(7), 5, api.MaxInt, nil, api.ErrData)
	wantDecode(t, behind(6, 6), 5, api.MaxInt, nil, api.ErrData)
	wantDecode(t, behind(0), 5, api.MaxInt, nil, api.ErrLong)
	wantDecode(t, behind(2), 5, api.MaxInt, nil, api.ErrLong)
	wantDecode(t, behind(6), 5, api.MaxInt-1, nil, api.ErrLong)
	wantDecode(t, behind(6), 5, api.MaxInt, nil, api.ErrLong)
}

// 7.3: each place of each number of symbols, and what is none.
func TestDecodeEach(t *testing.T) {
	for n := 1; n <= 256; n++ {
		for place := 1; place < n; place++ {
			wantDecode(t, []int{place + 1, n + 1}, n, 1, []int{place}, api.OK)
		}
		wantDecode(t, []int{n + 2, n + 1}, n, 1, nil, api.ErrData)
		wantDecode(t, []int{n + 1}, n, 0, nil, api.OK)
	}
}

// 7.4: Decode of Encode is the places; with room for these, and with more; with less it is too long.
func TestThereAndBack(t *testing.T) {
	random := rand.New(rand.NewSource(3))
	for range 2000 {
		n := 1 + random.Intn(1<<random.Intn(9))
		places := somePlaces(random, n)
		codes, e := zeros.Encode(places, n)
		if e != api.OK {
			t.Fatalf("Encode(%v, %d): %v", short(places), n, e)
		}
		wantDecode(t, codes, n, len(places), places, api.OK)
		wantDecode(t, codes, n, len(places)+1+random.Intn(1000), places, api.OK)
		wantDecode(t, codes, n, api.MaxInt, places, api.OK)
		wantDecode(t, codes[:len(codes)-1], n, len(places), nil, api.ErrEnd)
		wantDecode(t, append(codes, n+1), n, len(places), nil, api.ErrData)
		if len(places) > 0 {
			wantDecode(t, codes, n, len(places)-1, nil, api.ErrLong)
		}
	}
}

// 7.4: rows of each length, and long ones.
func TestRowsThereAndBack(t *testing.T) {
	for m := range 1100 {
		for _, places := range [][]int{make([]int, m), append(make([]int, m), 1), append([]int{1}, make([]int, m)...)} {
			codes, _ := zeros.Encode(places, 2)
			wantDecode(t, codes, 2, len(places), places, api.OK)
		}
	}
	places := make([]int, 900000)
	places[400000] = 200
	codes, _ := zeros.Encode(places, 201)
	wantDecode(t, codes, 201, len(places), places, api.OK)
}

// 7.3: any codes: what a reader tells one by one is what Decode tells at once.
func TestDecodeMany(t *testing.T) {
	random := rand.New(rand.NewSource(4))
	for range 5000 {
		n, most := 1+random.Intn(6), random.Intn(60)
		codes := make([]int, random.Intn(12))
		for i := range codes {
			codes[i] = random.Intn(n + 1 + random.Intn(3))
			if random.Intn(2) == 0 {
				codes[i] = random.Intn(2)
			}
		}
		if random.Intn(2) == 0 {
			codes = append(codes, n+1)
		}
		want, e := oneByOne(&model{n: n, most: most}, codes)
		wantDecode(t, codes, n, most, want, e)
	}
}

// oneByOne are the places of codes by a model.
func oneByOne(m *model, codes []int) ([]int, api.Errno) {
	var places []int
	for _, code := range codes {
		z, p, e := m.put(code)
		if e == api.ErrState {
			return nil, api.ErrData
		}
		if e != api.OK {
			return nil, e
		}
		places = append(places, make([]int, z)...)
		if p > 0 {
			places = append(places, p)
		}
	}
	if !m.done() {
		return nil, api.ErrEnd
	}
	return places, api.OK
}
