package zeros_test

import (
	"math/rand"
	"slices"
	"testing"

	"baler/api"
	"baler/zeros"
)

// model is a reader as the chapter tells it: all codes that came, by which everything is found anew.
type model struct {
	n, most int
	came    []int
}

// row is where the row begins that has not ended.
func (m *model) row() int {
	from := len(m.came)
	for from > 0 && m.came[from-1] <= 1 {
		from--
	}
	return from
}

// done is whether the end came.
func (m *model) done() bool { return slices.Contains(m.came, m.n+1) }

// count is how many places there are.
func (m *model) count() int {
	count, from := 0, 0
	for i, code := range m.came {
		if code <= 1 {
			continue
		}
		count += worth(m.came[from:i])
		if code <= m.n {
			count++
		}
		from = i + 1
	}
	return count + worth(m.came[from:])
}

// put is what a reader tells of a code.
func (m *model) put(code int) (int, int, api.Errno) {
	if m.done() {
		return 0, 0, api.ErrState
	}
	if code < 0 || code > m.n+1 {
		return 0, 0, api.ErrData
	}
	row := worth(m.came[m.row():])
	m.came = append(m.came, code)
	if m.count() > m.most {
		m.came = m.came[:len(m.came)-1]
		return 0, 0, api.ErrLong
	}
	switch {
	case code <= 1:
		return 0, -1, api.OK
	case code == m.n+1:
		return row, -1, api.OK
	}
	return row, code - 1, api.OK
}

// reader is a new reader; it fails, if there is none.
func reader(t *testing.T, n, most int) *zeros.Reader {
	t.Helper()
	r, e := zeros.NewReader(n, most)
	if r == nil || e != api.OK {
		t.Fatalf("NewReader(%d, %d): %v, %v", n, most, r, e)
	}
	wantState(t, r, 0, false)
	return r
}

// wantState fails unless a reader has so many places, and is done or not; asked twice, for looking changes nothing.
func wantState(t *testing.T, r *zeros.Reader, count int, done bool) {
	t.Helper()
	for range 2 {
		if r.Count() != count || r.Done() != done {
			t.Fatalf("Count %d, Done %v, not %d, %v", r.Count(), r.Done(), count, done)
		}
	}
}

// wantPut fails unless Put tells this.
func wantPut(t *testing.T, r *zeros.Reader, code, zeros, place int, err api.Errno) {
	t.Helper()
	if z, p, e := r.Put(code); z != zeros || p != place || e != err {
		t.Fatalf("Put(%d): %d, %d, %v, not %d, %d, %v", code, z, p, e, zeros, place, err)
	}
}

// wantNoPut fails unless Put tells an error, nothing beside it, and changes nothing.
func wantNoPut(t *testing.T, r *zeros.Reader, code int, err api.Errno) {
	t.Helper()
	count, done := r.Count(), r.Done()
	wantPut(t, r, code, 0, 0, err)
	wantState(t, r, count, done)
}

// 7.2: readers of all numbers of symbols, and of few and many places.
func TestNewReader(t *testing.T) {
	for n := 1; n <= 256; n++ {
		for _, most := range []int{0, 1, 900000, api.MaxInt - 1, api.MaxInt} {
			reader(t, n, most)
		}
	}
	bad := []int{-1, least, -256, 257, 258, 1 << 32, greatest}
	for _, n := range append(bad, 0) {
		for _, most := range []int{0, 5, -1, api.MaxInt, api.MaxInt + 1} {
			wantNoReader(t, n, most)
		}
	}
	for _, most := range []int{-1, -2, least, api.MaxInt + 1, api.MaxInt + 2, greatest} {
		for _, n := range []int{1, 2, 256} {
			wantNoReader(t, n, most)
		}
	}
}

// wantNoReader fails unless there is none.
func wantNoReader(t *testing.T, n, most int) {
	t.Helper()
	if r, e := zeros.NewReader(n, most); r != nil || e != api.ErrArg {
		t.Errorf("NewReader(%d, %d): %v, %v", n, most, r, e)
	}
	if l, e := zeros.Decode([]int{n + 1}, n, most); len(l) != 0 || e != api.ErrArg {
		t.Errorf("Decode(.., %d, %d): %v, %v", n, most, l, e)
	}
}

// 7.2: what codes tell, one by one: rows behind them, places, and the end.
func TestPut(t *testing.T) {
	r := reader(t, 4, 100)
	for _, c := range []struct{ code, zeros, place, count int }{
		{2, 0, 1, 1}, {1, 0, -1, 3}, {0, 0, -1, 5}, {3, 4, 2, 6}, {4, 0, 3, 7}, {0, 0, -1, 8}, {2, 1, 1, 9}, {1, 0, -1, 11},
		{1, 0, -1, 15}, {1, 0, -1, 23}, {4, 14, 3, 24}, {2, 0, 1, 25}, {0, 0, -1, 26}, {0, 0, -1, 28}, {0, 0, -1, 32},
	} {
		wantPut(t, r, c.code, c.zeros, c.place, api.OK)
		wantState(t, r, c.count, false)
	}
	wantPut(t, r, 5, 7, -1, api.OK)
	wantState(t, r, 32, true)
}

// 7.2: an end at once, behind a place, and behind a row.
func TestEnds(t *testing.T) {
	for n := 1; n <= 256; n++ {
		r := reader(t, n, 9)
		wantPut(t, r, n+1, 0, -1, api.OK)
		wantState(t, r, 0, true)
		r = reader(t, n, 9)
		wantPut(t, r, 1, 0, -1, api.OK)
		wantPut(t, r, n+1, 2, -1, api.OK)
		wantState(t, r, 2, true)
		if n > 1 {
			r = reader(t, n, 9)
			wantPut(t, r, n, 0, n-1, api.OK)
			wantPut(t, r, n+1, 0, -1, api.OK)
			wantState(t, r, 1, true)
		}
	}
}

// 7.2: behind the end, and of nil, each code is told as ErrState, one that is none too.
func TestPutState(t *testing.T) {
	r := reader(t, 4, 5)
	wantPut(t, r, 0, 0, -1, api.OK)
	wantPut(t, r, 5, 1, -1, api.OK)
	codes := []int{0, 1, 2, 4, 5, 6, -1, least, greatest}
	for _, code := range codes {
		wantNoPut(t, r, code, api.ErrState)
	}
	wantState(t, r, 1, true)
	var none *zeros.Reader
	wantState(t, none, 0, false)
	for _, code := range codes {
		wantNoPut(t, none, code, api.ErrState)
	}
}

// 7.2: what is no code, also where there is no room for a place (R1); it changes nothing.
func TestPutNone(t *testing.T) {
	for _, n := range []int{1, 2, 4, 255, 256} {
		for _, most := range []int{3, 4, 7, api.MaxInt} {
			r, empty := reader(t, n, most), reader(t, n, 0)
			wantPut(t, r, 0, 0, -1, api.OK)
			wantPut(t, r, 0, 0, -1, api.OK)
			for _, code := range []int{-1, -2, least, n + 2, n + 3, n + 258, 1 << 32, 1<<32 + 1, greatest} {
				wantNoPut(t, r, code, api.ErrData)
				wantNoPut(t, empty, code, api.ErrData)
			}
			wantPut(t, r, n+1, 3, -1, api.OK)
			wantState(t, r, 3, true)
		}
	}
}

// 7.2: as many places as most are told, and one more is not: of a row, of a place; the end always is.
func TestPutLong(t *testing.T) {
	r := reader(t, 3, 0)
	for _, code := range []int{0, 1, 2, 3} {
		wantNoPut(t, r, code, api.ErrLong)
	}
	wantPut(t, r, 4, 0, -1, api.OK)
	wantState(t, r, 0, true)

	r = reader(t, 3, 1)
	wantNoPut(t, r, 1, api.ErrLong)
	wantPut(t, r, 0, 0, -1, api.OK)
	for _, code := range []int{0, 1, 2, 3} {
		wantNoPut(t, r, code, api.ErrLong)
	}
	wantPut(t, r, 4, 1, -1, api.OK)
	wantState(t, r, 1, true)

	r = reader(t, 3, 4)
	wantPut(t, r, 3, 0, 2, api.OK)
	wantPut(t, r, 0, 0, -1, api.OK)
	wantNoPut(t, r, 1, api.ErrLong) // would be 4 more, of 2
	wantPut(t, r, 0, 0, -1, api.OK)
	wantState(t, r, 4, false)
	for _, code := range []int{0, 1, 2, 3} {
		wantNoPut(t, r, code, api.ErrLong)
	}
	wantPut(t, r, 4, 3, -1, api.OK)
	wantState(t, r, 4, true)
}

// 7.2: what is refused leaves the row as it was: a code that may be goes on with it.
func TestPutGoesOn(t *testing.T) {
	for _, code := range []int{0, 1} {
		r := reader(t, 9, 8+4*code)
		wantPut(t, r, 1, 0, -1, api.OK)
		wantPut(t, r, 0, 0, -1, api.OK)
		wantNoPut(t, r, 11, api.ErrData)
		wantPut(t, r, code, 0, -1, api.OK)
		wantState(t, r, 8+4*code, false)
		for _, bad := range []int{0, 1, 2, 9} {
			wantNoPut(t, r, bad, api.ErrLong)
		}
		wantNoPut(t, r, -1, api.ErrData)
		wantPut(t, r, 10, 8+4*code, -1, api.OK)
		wantState(t, r, 8+4*code, true)
	}
	r := reader(t, 9, 6)
	wantPut(t, r, 1, 0, -1, api.OK)
	wantPut(t, r, 0, 0, -1, api.OK)
	wantNoPut(t, r, 0, api.ErrLong)
	wantPut(t, r, 5, 4, 4, api.OK)
	wantPut(t, r, 0, 0, -1, api.OK)
	wantNoPut(t, r, 5, api.ErrLong)
	wantPut(t, r, 10, 1, -1, api.OK)
	wantState(t, r, 6, true)
}

// 7.2: a row of as many places as may be, and one more.
func TestLongestRead(t *testing.T) {
	for _, most := range []int{api.MaxInt, api.MaxInt - 1, api.MaxInt / 2, 1<<31 - 1, 1 << 31, 1 << 32} {
		for _, bad := range []int{0, 1, 2, 256} {
			r := reader(t, 256, most)
			for _, code := range plainRow(most) {
				wantPut(t, r, code, 0, -1, api.OK)
			}
			wantState(t, r, most, false)
			wantNoPut(t, r, bad, api.ErrLong)
			wantPut(t, r, 257, most, -1, api.OK)
			wantState(t, r, most, true)
		}
	}
}

// 7.2: codes of a row again and again come to an end of what may be, and no number runs over.
func TestPutAlways(t *testing.T) {
	for code := range 2 {
		r := reader(t, 1, api.MaxInt)
		for i := range 1000 {
			if z, p, e := r.Put(code); e == api.OK && (z != 0 || p != -1) || e != api.OK && e != api.ErrLong || (e == api.OK) != (i < 40-code) {
				t.Fatalf("%d: Put(%d): %d, %d, %v", i, code, z, p, e)
			}
		}
		want := (1+code)<<(40-code) - 1 - code
		wantState(t, r, want, false)
		wantPut(t, r, 2, want, -1, api.OK)
	}
}

// 7.2: many codes of any kind, told by all that came; and two readers at a time are apart (R3).
func TestPutMany(t *testing.T) {
	random := rand.New(rand.NewSource(2))
	for range 3000 {
		n, most := 1+random.Intn(1<<random.Intn(9)), random.Intn(1<<random.Intn(12))
		want := &model{n: n, most: most}
		r, other := reader(t, n, most), reader(t, n, most)
		for range random.Intn(40) {
			code := random.Intn(2)
			switch random.Intn(8) {
			case 0, 1, 2:
				code = random.Intn(n + 1)
			case 3:
				code = random.Intn(n+6) - 2
			}
			z, p, e := want.put(code)
			wantPut(t, r, code, z, p, e)
			wantState(t, r, want.count(), want.done())
		}
		wantState(t, other, 0, false)
	}
}
