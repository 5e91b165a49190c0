package ledger_test

import (
	"math/rand"
	"slices"
	"testing"

	"baler/api"
	"baler/ledger"
)

// least and greatest are the ends of all numbers.
const (
	least    = -1 << 63
	greatest = 1<<63 - 1
)

// noTenants are numbers that no tenant has, of so many.
func noTenants(tenants int) []int {
	return []int{-1, -2, -tenants, least, tenants, tenants + 1, 16, 17, 1000, 1 << 32, 1<<40 + 1, greatest}
}

// model is a ledger as the chapter tells it: of each tenant all that was ever done, and nothing reckoned from it beforehand.
type model struct {
	limits []int
	done   [][]int // what was reserved, and what was released as less than 0
}

// used is what is reserved.
func (m *model) used(tenant int) int {
	n := 0
	for _, by := range m.done[tenant] {
		n += by
	}
	return n
}

// peak is how much was reserved at most at a time.
func (m *model) peak(tenant int) int {
	most, n := 0, 0
	for _, by := range m.done[tenant] {
		n += by
		most = max(most, n)
	}
	return most
}

// has tells whether there is such a tenant.
func (m *model) has(tenant int) bool { return tenant >= 0 && tenant < len(m.limits) }

// reserve is what Reserve must tell.
func (m *model) reserve(tenant, n int) api.Errno {
	if !m.has(tenant) {
		return api.ErrNone
	}
	if n < 0 || n > 1<<40 {
		return api.ErrArg
	}
	if n > m.limits[tenant] {
		return api.ErrQuota
	}
	if n > m.limits[tenant]-m.used(tenant) {
		return api.ErrBusy
	}
	m.done[tenant] = append(m.done[tenant], n)
	return api.OK
}

// release is what Release must tell.
func (m *model) release(tenant, n int) api.Errno {
	if !m.has(tenant) {
		return api.ErrNone
	}
	if n < 0 || n > m.used(tenant) {
		return api.ErrArg
	}
	m.done[tenant] = append(m.done[tenant], -n)
	return api.OK
}

// watched is a ledger, and what it must be.
type watched struct {
	t    *testing.T
	l    *ledger.Ledger
	want *model
}

// watch is a new ledger that is watched.
func watch(t *testing.T, limits ...int) *watched {
	t.Helper()
	l, e := ledger.New(limits)
	if l == nil || e != api.OK {
		t.Fatalf("New(%v): %v, %v", limits, l != nil, e)
	}
	w := &watched{t: t, l: l, want: &model{limits: slices.Clone(limits), done: make([][]int, len(limits))}}
	w.look()
	return w
}

// look fails unless all that can be asked is as it must be, twice, of all tenants, and of some that there are not.
func (w *watched) look() {
	w.t.Helper()
	for range 2 {
		if n := w.l.Tenants(); n != len(w.want.limits) {
			w.t.Fatalf("Tenants: %d, not %d", n, len(w.want.limits))
		}
		for tenant, limit := range w.want.limits {
			used, peak := w.want.used(tenant), w.want.peak(tenant)
			w.tells(tenant, used, limit-used, peak, limit)
			if u, l := w.l.Used(tenant), w.l.Left(tenant); u < 0 || u > limit || u+l != limit {
				w.t.Fatalf("tenant %d: Used %d and Left %d of the limit %d", tenant, u, l, limit)
			}
		}
		for _, tenant := range []int{-1, least, len(w.want.limits), 1 << 32, greatest} {
			w.tells(tenant, 0, 0, 0, 0)
		}
	}
}

// tells fails unless this is told of a tenant.
func (w *watched) tells(tenant, used, left, peak, limit int) {
	w.t.Helper()
	if u, l, p, m := w.l.Used(tenant), w.l.Left(tenant), w.l.Peak(tenant), w.l.Limit(tenant); u != used || l != left || p != peak || m != limit {
		w.t.Fatalf("tenant %d: %d used, %d left, at most %d, the limit %d, not %d, %d, %d, %d", tenant, u, l, p, m, used, left, peak, limit)
	}
}

// reserve reserves, and looks.
func (w *watched) reserve(tenant, n int) api.Errno {
	w.t.Helper()
	e := w.l.Reserve(tenant, n)
	if want := w.want.reserve(tenant, n); e != want {
		w.t.Fatalf("Reserve(%d, %d): %v, not %v", tenant, n, e, want)
	}
	w.look()
	return e
}

// release releases, and looks.
func (w *watched) release(tenant, n int) api.Errno {
	w.t.Helper()
	e := w.l.Release(tenant, n)
	if want := w.want.release(tenant, n); e != want {
		w.t.Fatalf("Release(%d, %d): %v, not %v", tenant, n, e, want)
	}
	w.look()
	return e
}

// wants fails unless it is this error.
func wants(t *testing.T, what string, e, want api.Errno) {
	t.Helper()
	if e != want {
		t.Errorf("%s: %v, not %v", what, e, want)
	}
}

// 27.1: the limits that may be, and how many tenants there are.
func TestNew(t *testing.T) {
	for _, limits := range [][]int{
		{0}, {1}, {1 << 40}, {0, 0}, {1<<40 - 1, 1 << 40, 0}, {7, 7, 7}, make([]int, 15), make([]int, 16), slices.Repeat([]int{1 << 40}, 16),
	} {
		before := slices.Clone(limits)
		watch(t, limits...)
		if !slices.Equal(limits, before) {
			t.Errorf("New changed %v to %v", before, limits)
		}
	}
}

// 27.1: limits that may not be: none, too many, and one out of its range, wherever it stands.
func TestNewArguments(t *testing.T) {
	bad := [][]int{nil, {}, make([]int, 17), make([]int, 18), make([]int, 1000), slices.Repeat([]int{-1}, 17)}
	for _, n := range []int{-1, -2, least, 1<<40 + 1, 1 << 41, 1<<63 - 1, -1 << 40} {
		bad = append(bad, []int{n}, []int{n, 1}, []int{1, n}, []int{1, n, 1}, append(make([]int, 15), n), append([]int{n}, make([]int, 15)...), []int{n, n})
	}
	for _, limits := range bad {
		if l, e := ledger.New(limits); l != nil || e != api.ErrArg {
			t.Errorf("New(%v): %v, %v", limits[:min(len(limits), 20)], l != nil, e)
		}
	}
}

// 27.1: the ledger has memory of its own.
func TestNewKeepsNothing(t *testing.T) {
	limits := []int{10, 20}
	l, _ := ledger.New(limits)
	limits[0], limits[1] = 0, 1<<40
	if l.Limit(0) != 10 || l.Limit(1) != 20 || l.Left(0) != 10 || l.Left(1) != 20 {
		t.Errorf("Limit: %d, %d", l.Limit(0), l.Limit(1))
	}
	wants(t, "Reserve(0, 10)", l.Reserve(0, 10), api.OK)
	wants(t, "Reserve(1, 21)", l.Reserve(1, 21), api.ErrQuota)
	if limits[0] != 0 || limits[1] != 1<<40 {
		t.Errorf("the limits handed in: %v", limits)
	}
}

// 27.2, 27.3: the example of the chapter.
func TestExample(t *testing.T) {
	w := watch(t, 10)
	wants(t, "Reserve 6", w.reserve(0, 6), api.OK)
	wants(t, "Reserve 5", w.reserve(0, 5), api.ErrBusy)
	wants(t, "Reserve 11", w.reserve(0, 11), api.ErrQuota)
	w.tells(0, 6, 4, 6, 10)
	wants(t, "Release 6", w.release(0, 6), api.OK)
	wants(t, "Release 1", w.release(0, 1), api.ErrArg)
	w.tells(0, 0, 10, 6, 10)
}

// 27.2: what is reserved at the edges of what may be, of limits at theirs.
func TestReserve(t *testing.T) {
	const most = 1 << 40
	for _, c := range []struct {
		limit, before, n int
		want             api.Errno
	}{
		{10, 0, 0, api.OK}, {10, 0, 1, api.OK}, {10, 0, 10, api.OK}, {10, 0, 11, api.ErrQuota}, {10, 0, most, api.ErrQuota}, {10, 0, most + 1, api.ErrArg}, {10, 0, -1, api.ErrArg},
		{10, 10, 0, api.OK}, {10, 10, 1, api.ErrBusy}, {10, 10, 10, api.ErrBusy}, {10, 10, 11, api.ErrQuota}, {10, 4, 6, api.OK}, {10, 4, 7, api.ErrBusy}, {10, 9, 1, api.OK}, {10, 9, 2, api.ErrBusy}, {10, 1, 10, api.ErrBusy}, {10, 1, 9, api.OK},
		{10, 5, greatest, api.ErrArg}, {10, 5, least, api.ErrArg}, {10, 5, -5, api.ErrArg}, {10, 5, -6, api.ErrArg}, {10, 5, 1<<32 + 1, api.ErrQuota}, {10, 5, 1 << 62, api.ErrArg},
		{0, 0, 0, api.OK}, {0, 0, 1, api.ErrQuota}, {0, 0, -1, api.ErrArg}, {0, 0, most, api.ErrQuota}, {0, 0, most + 1, api.ErrArg},
		{most, 0, most, api.OK}, {most, 0, most + 1, api.ErrArg}, {most, most, 1, api.ErrBusy}, {most, most, most, api.ErrBusy}, {most, most, 0, api.OK}, {most, 1, most, api.ErrBusy}, {most, 1, most - 1, api.OK},
	} {
		w := watch(t, c.limit)
		wants(t, "Reserve before", w.reserve(0, c.before), api.OK)
		if e := w.reserve(0, c.n); e != c.want {
			t.Errorf("%d of %d, Reserve %d: %v, not %v", c.before, c.limit, c.n, e, c.want)
		}
	}
}

// 27.2: what is released at the edges of what may be.
func TestRelease(t *testing.T) {
	const most = 1 << 40
	for _, c := range []struct {
		limit, before, n int
		want             api.Errno
	}{
		{10, 0, 0, api.OK}, {10, 0, 1, api.ErrArg}, {10, 0, -1, api.ErrArg}, {10, 6, 6, api.OK}, {10, 6, 7, api.ErrArg}, {10, 6, 10, api.ErrArg}, {10, 6, 5, api.OK}, {10, 6, 0, api.OK},
		{10, 6, -1, api.ErrArg}, {10, 6, -4, api.ErrArg}, {10, 6, least, api.ErrArg}, {10, 6, greatest, api.ErrArg}, {10, 6, most, api.ErrArg}, {10, 6, most + 1, api.ErrArg}, {10, 6, 1<<32 + 1, api.ErrArg},
		{0, 0, 0, api.OK}, {0, 0, 1, api.ErrArg}, {most, most, most, api.OK}, {most, most, most + 1, api.ErrArg}, {most, most - 1, most, api.ErrArg}, {most, most, 1, api.OK},
	} {
		w := watch(t, c.limit)
		wants(t, "Reserve before", w.reserve(0, c.before), api.OK)
		if e := w.release(0, c.n); e != c.want {
			t.Errorf("%d of %d, Release %d: %v, not %v", c.before, c.limit, c.n, e, c.want)
		}
	}
}

// 27.2: of a tenant that there is not, ErrNone comes ahead of what else is wrong.
func TestNoTenant(t *testing.T) {
	for tenants := 1; tenants <= 16; tenants++ {
		w := watch(t, slices.Repeat([]int{5}, tenants)...)
		for tenant := range tenants {
			wants(t, "Reserve", w.reserve(tenant, 2), api.OK)
		}
		for _, tenant := range noTenants(tenants) {
			if tenant >= 0 && tenant < tenants {
				continue
			}
			for _, n := range []int{0, 1, 5, 6, -1, 1<<40 + 1, least, greatest} {
				wants(t, "Reserve of nobody", w.reserve(tenant, n), api.ErrNone)
				wants(t, "Release of nobody", w.release(tenant, n), api.ErrNone)
			}
		}
	}
}

// 27.3: the peak stays where less is reserved, also where more is reserved again, but not as much.
func TestPeak(t *testing.T) {
	w := watch(t, 100, 100)
	for i, c := range []struct{ by, peak int }{
		{30, 30}, {-10, 30}, {5, 30}, {5, 30}, {1, 31}, {-31, 31}, {31, 31}, {0, 31}, {101, 31}, {70, 31}, {69, 100}, {1, 100}, {-100, 100}, {99, 100},
	} {
		if c.by < 0 {
			w.release(0, -c.by)
		} else {
			w.reserve(0, c.by)
		}
		if p := w.l.Peak(0); p != c.peak {
			t.Errorf("%d: Peak %d, not %d", i, p, c.peak)
		}
	}
	w.tells(1, 0, 100, 0, 100)
}

// 27.4: what is reserved piece by piece is at most the limit, and all of it can be released, in one or in pieces.
func TestPieces(t *testing.T) {
	for _, limit := range []int{0, 1, 2, 3, 50, 1 << 40} {
		for _, piece := range []int{1, 2, 7, limit/3 + 1, limit/2 + 1, limit} {
			w := watch(t, limit)
			times := 0
			for times < 60 && w.reserve(0, piece) == api.OK {
				times++
			}
			if want := limit / max(piece, 1); piece > 0 && times != min(want, 60) {
				t.Errorf("the limit %d, pieces of %d: %d", limit, piece, times)
			}
			for range times {
				wants(t, "Release", w.release(0, piece), api.OK)
			}
			w.tells(0, 0, limit, times*piece, limit)
		}
	}
}

// 27.4, 27.5: many calls of many tenants, right ones and wrong ones, held against all that was done.
func TestMany(t *testing.T) {
	for seed := range 60 {
		random := rand.New(rand.NewSource(int64(seed)))
		limits := make([]int, 1+random.Intn(16))
		for i := range limits {
			limits[i] = random.Intn(1 + 1<<random.Intn(41))
		}
		w := watch(t, limits...)
		for range 150 {
			tenant := random.Intn(len(limits)+2) - 1
			n := random.Intn(3+w.l.Limit(tenant)) - 1
			if random.Intn(2) == 0 {
				n = random.Intn(2 + 1<<random.Intn(41))
			}
			if random.Intn(2) == 0 {
				w.reserve(tenant, n)
			} else {
				w.release(tenant, min(n, w.l.Used(tenant)+random.Intn(2)))
			}
		}
	}
}

// 27.5: what others do in between changes nothing of a tenant, whether it is done or refused.
func TestApart(t *testing.T) {
	alone, _ := ledger.New([]int{50})
	w := watch(t, 50, 50, 0, 1<<40)
	random := rand.New(rand.NewSource(5))
	for range 500 {
		for tenant := 1; tenant < 4; tenant++ {
			w.reserve(tenant, random.Intn(60))
			w.release(tenant, random.Intn(60))
		}
		n := random.Intn(60)
		var e, f api.Errno
		if random.Intn(2) == 0 {
			e, f = alone.Reserve(0, n), w.l.Reserve(0, n)
			w.want.reserve(0, n)
		} else {
			e, f = alone.Release(0, n), w.l.Release(0, n)
			w.want.release(0, n)
		}
		if e != f {
			t.Fatalf("%d: alone %v, beside others %v", n, e, f)
		}
		w.tells(0, alone.Used(0), alone.Left(0), alone.Peak(0), alone.Limit(0))
	}
}

// R6: ledgers side by side know nothing of each other, and the same calls tell the same.
func TestSideBySide(t *testing.T) {
	a, b, c := watch(t, 10, 3), watch(t, 10, 3), watch(t, 3, 10)
	for _, n := range []int{6, 5, 4, 0, 1, 11, -1} {
		if e, f := a.reserve(0, n), b.reserve(0, n); e != f {
			t.Errorf("Reserve(0, %d): %v and %v", n, e, f)
		}
		c.look()
		if e, f := a.release(0, n/2), b.release(0, n/2); e != f {
			t.Errorf("Release(0, %d): %v and %v", n/2, e, f)
		}
		c.look()
	}
}

// 27.2, 27.3: of nil, and of a ledger that New did not make, which is as nil: ErrState ahead of all else, and 0.
func TestNil(t *testing.T) {
	var none *ledger.Ledger
	for _, l := range []*ledger.Ledger{none, {}, new(ledger.Ledger)} {
		for _, tenant := range []int{0, 1, -1, 16, least, greatest} {
			for _, n := range []int{0, 1, -1, 1 << 40, 1<<40 + 1, least, greatest} {
				wants(t, "Reserve of nil", l.Reserve(tenant, n), api.ErrState)
				wants(t, "Release of nil", l.Release(tenant, n), api.ErrState)
			}
			if u, f, p, m := l.Used(tenant), l.Left(tenant), l.Peak(tenant), l.Limit(tenant); u != 0 || f != 0 || p != 0 || m != 0 {
				t.Errorf("tenant %d of nil: %d, %d, %d, %d", tenant, u, f, p, m)
			}
		}
		if n := l.Tenants(); n != 0 {
			t.Errorf("Tenants of nil: %d", n)
		}
	}
}
