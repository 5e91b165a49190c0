package window_test

import (
	"math/rand"
	"slices"
	"testing"

	"baler/api"
	"baler/window"
)

// least and greatest are the ends of all numbers.
const (
	least    = -1 << 63
	greatest = 1<<63 - 1
)

// charge is what a tenant was charged at a tick.
type charge struct{ tick, tenant, n int }

// model is a meter as the chapter tells it: all that was ever charged, and nothing reckoned from it beforehand.
type model struct {
	span, at int
	quotas   []int
	charges  []charge
}

// inWindow is what a tenant was charged in the window of a tick.
func (m *model) inWindow(tenant, tick int) int {
	first := tick - tick%m.span
	n := 0
	for _, c := range m.charges {
		if c.tenant == tenant && c.tick >= first && c.tick < first+m.span {
			n += c.n
		}
	}
	return n
}

// left is what a tenant may yet use.
func (m *model) left(tenant int) int { return m.quotas[tenant] - m.inWindow(tenant, m.at) }

// total is all that a tenant was charged ever.
func (m *model) total(tenant int) int {
	n := 0
	for _, c := range m.charges {
		if c.tenant == tenant {
			n = min(n+c.n, 1<<40)
		}
	}
	return n
}

// charge is what Charge must tell.
func (m *model) charge(tenant, n int) api.Errno {
	if tenant < 0 || tenant >= len(m.quotas) {
		return api.ErrNone
	}
	if n < 0 || n > 1<<40 {
		return api.ErrArg
	}
	if n > m.left(tenant) {
		return api.ErrQuota
	}
	m.charges = append(m.charges, charge{m.at, tenant, n})
	return api.OK
}

// watched is a meter, and what it must be.
type watched struct {
	t    *testing.T
	m    *window.Meter
	want *model
}

// watch is a new meter that is watched.
func watch(t *testing.T, span int, quotas ...int) *watched {
	t.Helper()
	m, e := window.New(span, quotas)
	if m == nil || e != api.OK {
		t.Fatalf("New(%d, %v): %v, %v", span, quotas, m != nil, e)
	}
	w := &watched{t: t, m: m, want: &model{span: span, quotas: slices.Clone(quotas)}}
	w.look()
	return w
}

// look fails unless all that can be asked is as it must be, twice, of all tenants, and of some that there are not.
func (w *watched) look() {
	w.t.Helper()
	for range 2 {
		if at, begins := w.m.At(), w.m.Begins(); at != w.want.at || begins != (w.want.at%w.want.span == 0) {
			w.t.Fatalf("the tick %d, %v, not %d of the span %d", at, begins, w.want.at, w.want.span)
		}
		var all []int
		for tenant, quota := range w.want.quotas {
			left := w.want.left(tenant)
			w.tells(tenant, left, w.want.total(tenant))
			if left < 0 || left > quota {
				w.t.Fatalf("tenant %d may yet use %d of %d", tenant, left, quota)
			}
			all = append(all, left)
		}
		if got := w.m.All(); !slices.Equal(got, all) {
			w.t.Fatalf("All: %v, not %v", got, all)
		}
		for _, tenant := range []int{-1, least, len(w.want.quotas), 1 << 32, greatest} {
			w.tells(tenant, 0, 0)
		}
	}
}

// tells fails unless this is told of a tenant.
func (w *watched) tells(tenant, left, total int) {
	w.t.Helper()
	if l, n := w.m.Left(tenant), w.m.Total(tenant); l != left || n != total {
		w.t.Fatalf("tenant %d at %d: %d left, %d in all, not %d, %d", tenant, w.m.At(), l, n, left, total)
	}
}

// charge charges, and looks.
func (w *watched) charge(tenant, n int) api.Errno {
	w.t.Helper()
	e := w.m.Charge(tenant, n)
	if want := w.want.charge(tenant, n); e != want {
		w.t.Fatalf("Charge(%d, %d) at %d: %v, not %v", tenant, n, w.want.at, e, want)
	}
	w.look()
	return e
}

// tick goes so many ticks on, and looks behind each.
func (w *watched) tick(times int) {
	w.t.Helper()
	for range times {
		w.m.Tick()
		w.want.at++
		w.look()
	}
}

// wants fails unless it is this error.
func wants(t *testing.T, what string, e, want api.Errno) {
	t.Helper()
	if e != want {
		t.Errorf("%s: %v, not %v", what, e, want)
	}
}

// 28.1: what may be.
func TestNew(t *testing.T) {
	for _, quotas := range [][]int{
		{0}, {1}, {1 << 40}, {0, 0}, {1<<40 - 1, 1 << 40, 0}, {7, 7, 7}, make([]int, 15), make([]int, 16), slices.Repeat([]int{1 << 40}, 16),
	} {
		for _, span := range []int{1, 2, 3, 1000, 1<<20 - 1, 1 << 20} {
			before := slices.Clone(quotas)
			watch(t, span, quotas...).tick(2)
			if !slices.Equal(quotas, before) {
				t.Errorf("New changed %v to %v", before, quotas)
			}
		}
	}
}

// 28.1: what may not be: a span, no quotas, too many, and one out of its range, wherever it stands.
func TestNewArguments(t *testing.T) {
	for _, span := range []int{0, -1, least, 1<<20 + 1, 1 << 21, 1<<32 + 1, greatest} {
		for _, quotas := range [][]int{{1}, {1, 2, 3}, nil, {-1}} {
			if m, e := window.New(span, quotas); m != nil || e != api.ErrArg {
				t.Errorf("New(%d, %v): %v, %v", span, quotas, m != nil, e)
			}
		}
	}
	bad := [][]int{nil, {}, make([]int, 17), make([]int, 18), make([]int, 1000), slices.Repeat([]int{-1}, 17)}
	for _, n := range []int{-1, -2, least, 1<<40 + 1, 1 << 41, greatest, -1 << 40} {
		bad = append(bad, []int{n}, []int{n, 1}, []int{1, n}, []int{1, n, 1}, append(make([]int, 15), n), append([]int{n}, make([]int, 15)...), []int{n, n})
	}
	for _, quotas := range bad {
		for _, span := range []int{1, 3, 1 << 20} {
			if m, e := window.New(span, quotas); m != nil || e != api.ErrArg {
				t.Errorf("New(%d, %v): %v, %v", span, quotas[:min(len(quotas), 20)], m != nil, e)
			}
		}
	}
}

// R3: the meter has memory of its own, and All tells a list of its own.
func TestOwnMemory(t *testing.T) {
	quotas := []int{10, 20}
	m, _ := window.New(2, quotas)
	quotas[0], quotas[1] = 0, 1<<40
	if all := m.All(); !slices.Equal(all, []int{10, 20}) {
		t.Errorf("All: %v", all)
	}
	all := m.All()
	all[0], all[1] = 1, 2
	wants(t, "Charge(0, 10)", m.Charge(0, 10), api.OK)
	wants(t, "Charge(1, 21)", m.Charge(1, 21), api.ErrQuota)
	if all[0] != 1 || all[1] != 2 || quotas[0] != 0 || quotas[1] != 1<<40 {
		t.Errorf("what was told is %v, what was handed in %v", all, quotas)
	}
	if all := m.All(); !slices.Equal(all, []int{0, 20}) {
		t.Errorf("All: %v", all)
	}
}

// 28.1, 28.2: the example of the chapter.
func TestExample(t *testing.T) {
	w := watch(t, 2, 5)
	wants(t, "3 at 0", w.charge(0, 3), api.OK)
	w.tick(1)
	wants(t, "2 at 1", w.charge(0, 2), api.OK)
	wants(t, "1 more at 1", w.charge(0, 1), api.ErrQuota)
	w.tick(1)
	w.tells(0, 5, 5)
}

// 28.1: which ticks windows begin with.
func TestTicks(t *testing.T) {
	for _, span := range []int{1, 2, 3, 4, 5, 7, 10, 64, 100, 1 << 20} {
		m, _ := window.New(span, []int{1})
		var begins []int
		for tick := range 250 {
			if m.At() != tick {
				t.Fatalf("the span %d: At %d, not %d", span, m.At(), tick)
			}
			if m.Begins() {
				begins = append(begins, tick)
			}
			m.Tick()
		}
		for i := range begins {
			if begins[i] != i*span {
				t.Errorf("the span %d: windows begin with %v", span, begins)
			}
		}
		if want := (250 + span - 1) / span; len(begins) != want {
			t.Errorf("the span %d: %d windows, not %d", span, len(begins), want)
		}
	}
}

// 28.1, 28.2: a window of the greatest span, gone through to the next one.
func TestLongSpan(t *testing.T) {
	m, _ := window.New(1<<20, []int{9})
	wants(t, "Charge", m.Charge(0, 4), api.OK)
	for range 1<<20 - 1 {
		m.Tick()
		if m.Begins() || m.Left(0) != 5 {
			t.Fatalf("at %d: %v, %d left", m.At(), m.Begins(), m.Left(0))
		}
	}
	m.Tick()
	if m.At() != 1<<20 || !m.Begins() || m.Left(0) != 9 || m.Total(0) != 4 {
		t.Errorf("at %d: %v, %d left, %d in all", m.At(), m.Begins(), m.Left(0), m.Total(0))
	}
}

// 28.2: what is charged at the edges of what may be, of quotas at theirs, in a first window and in a later one.
func TestCharge(t *testing.T) {
	const most = 1 << 40
	for _, c := range []struct {
		quota, before, n int
		want             api.Errno
	}{
		{10, 0, 0, api.OK}, {10, 0, 1, api.OK}, {10, 0, 10, api.OK}, {10, 0, 11, api.ErrQuota}, {10, 0, most, api.ErrQuota}, {10, 0, most + 1, api.ErrArg}, {10, 0, -1, api.ErrArg},
		{10, 10, 0, api.OK}, {10, 10, 1, api.ErrQuota}, {10, 7, 3, api.OK}, {10, 7, 4, api.ErrQuota}, {10, 1, 9, api.OK}, {10, 1, 10, api.ErrQuota},
		{10, 5, greatest, api.ErrArg}, {10, 5, least, api.ErrArg}, {10, 5, -5, api.ErrArg}, {10, 5, 1<<32 + 1, api.ErrQuota}, {10, 5, 1 << 62, api.ErrArg},
		{0, 0, 0, api.OK}, {0, 0, 1, api.ErrQuota}, {0, 0, -1, api.ErrArg}, {0, 0, most + 1, api.ErrArg},
		{most, 0, most, api.OK}, {most, 0, most + 1, api.ErrArg}, {most, most, 1, api.ErrQuota}, {most, most, 0, api.OK}, {most, 1, most, api.ErrQuota}, {most, 1, most - 1, api.OK},
	} {
		for ticks := range 4 {
			w := watch(t, 3, c.quota)
			w.tick(ticks)
			wants(t, "Charge before", w.charge(0, c.before), api.OK)
			if e := w.charge(0, c.n); e != c.want {
				t.Errorf("%d of %d, Charge %d: %v, not %v", c.before, c.quota, c.n, e, c.want)
			}
		}
	}
}

// 28.2: of a tenant that there is not, ErrNone comes ahead of what else is wrong.
func TestNoTenant(t *testing.T) {
	for tenants := 1; tenants <= 16; tenants++ {
		w := watch(t, 2, slices.Repeat([]int{5}, tenants)...)
		for tenant := range tenants {
			wants(t, "Charge", w.charge(tenant, 2), api.OK)
		}
		for _, tenant := range []int{-1, -tenants, least, tenants, tenants + 1, 16, 17, 1 << 32, greatest} {
			for _, n := range []int{0, 1, 5, 6, -1, 1<<40 + 1, least, greatest} {
				wants(t, "Charge of nobody", w.charge(tenant, n), api.ErrNone)
			}
		}
	}
}

// 28.2: the total is at most MaxInt, and what may yet be used hangs on the window alone.
func TestTotal(t *testing.T) {
	const most = 1 << 40
	for _, charges := range [][]int{
		{most, most, most}, {most - 1, 1, 1}, {most - 1, 2, 0}, {most / 2, most / 2, 0, 1}, {most/2 + 1, most / 2, 5}, {1, 2, 3, 4, 5, 6}, {0, 0, most, 0, most},
	} {
		w := watch(t, 1, most, most)
		sum := 0
		for _, n := range charges {
			wants(t, "Charge", w.charge(0, n), api.OK)
			sum = min(sum+n, most)
			w.tells(0, most-n, sum)
			w.tells(1, most, 0)
			w.tick(1)
			w.tells(0, most, sum)
		}
	}
}

// 28.3: of each span, all is used in each window, at whatever tick of it, and never more; a refusal uses nothing.
func TestWindows(t *testing.T) {
	for span := 1; span <= 9; span++ {
		for at := range span {
			w := watch(t, span, 5, 0)
			w.tick(at)
			for range 3 {
				wants(t, "6", w.charge(0, 6), api.ErrQuota)
				wants(t, "4", w.charge(0, 4), api.OK)
				wants(t, "2", w.charge(0, 2), api.ErrQuota)
				wants(t, "1", w.charge(0, 1), api.OK)
				wants(t, "1 more", w.charge(0, 1), api.ErrQuota)
				wants(t, "1 of nothing", w.charge(1, 1), api.ErrQuota)
				w.tick(span)
			}
			w.tells(0, 5, 15)
		}
	}
}

// 28.3, 28.4: many calls of many tenants, right ones and wrong ones, held against all that was charged.
func TestMany(t *testing.T) {
	for seed := range 60 {
		random := rand.New(rand.NewSource(int64(seed)))
		quotas := make([]int, 1+random.Intn(16))
		for i := range quotas {
			quotas[i] = random.Intn(1 + 1<<random.Intn(41))
		}
		w := watch(t, 1+random.Intn(1+random.Intn(12)), quotas...)
		for range 150 {
			tenant := random.Intn(len(quotas)+2) - 1
			switch random.Intn(3) {
			case 0:
				w.charge(tenant, random.Intn(2+1<<random.Intn(41))-1)
			case 1:
				w.charge(tenant, random.Intn(2+w.m.Left(tenant)))
			default:
				w.tick(1)
			}
		}
		for tenant, quota := range quotas {
			for tick := range w.want.at + 1 {
				if n := w.want.inWindow(tenant, tick); n > quota {
					t.Fatalf("tenant %d was charged %d of %d at %d", tenant, n, quota, tick)
				}
			}
		}
	}
}

// 28.4: what others are charged changes nothing of a tenant.
func TestApart(t *testing.T) {
	alone, _ := window.New(4, []int{50})
	among, _ := window.New(4, []int{7, 50, 0, 1 << 40})
	random := rand.New(rand.NewSource(5))
	for range 2000 {
		for _, tenant := range []int{0, 2, 3} {
			among.Charge(tenant, random.Intn(60))
		}
		n := random.Intn(30)
		if e, f := alone.Charge(0, n), among.Charge(1, n); e != f {
			t.Fatalf("%d: alone %v, beside others %v", n, e, f)
		}
		if alone.Left(0) != among.Left(1) || alone.Total(0) != among.Total(1) {
			t.Fatalf("alone %d, %d, beside others %d, %d", alone.Left(0), alone.Total(0), among.Left(1), among.Total(1))
		}
		if random.Intn(2) == 0 {
			alone.Tick()
			among.Tick()
		}
	}
}

// R6: meters side by side know nothing of each other, and the same calls tell the same.
func TestSideBySide(t *testing.T) {
	a, b, c := watch(t, 2, 10, 3), watch(t, 2, 10, 3), watch(t, 3, 3, 10)
	for _, n := range []int{6, 5, 4, 0, 1, 11, -1} {
		if e, f := a.charge(0, n), b.charge(0, n); e != f {
			t.Errorf("Charge(0, %d): %v and %v", n, e, f)
		}
		c.look()
		a.tick(1)
		b.look()
		c.look()
		b.tick(1)
	}
}

// 28.2: of nil, and of a meter that New did not make, which is as nil: ErrState ahead of all else, 0, false, none; and it stays so.
func TestNil(t *testing.T) {
	var none *window.Meter
	for _, m := range []*window.Meter{none, {}, new(window.Meter)} {
		for range 3 {
			for _, tenant := range []int{0, 1, -1, 16, least, greatest} {
				for _, n := range []int{0, 1, -1, 1 << 40, 1<<40 + 1, least, greatest} {
					wants(t, "Charge of nil", m.Charge(tenant, n), api.ErrState)
				}
				if m.Left(tenant) != 0 || m.Total(tenant) != 0 {
					t.Errorf("tenant %d of nil: %d, %d", tenant, m.Left(tenant), m.Total(tenant))
				}
			}
			if m.At() != 0 || m.Begins() || len(m.All()) != 0 {
				t.Errorf("of nil: %d, %v, %v", m.At(), m.Begins(), m.All())
			}
			m.Tick()
		}
	}
}
