package drr_test

import (
	"slices"
	"testing"

	"baler/api"
	"baler/drr"
)

// least and greatest are the ends of all numbers.
const (
	least    = -1 << 63
	greatest = 1<<63 - 1
)

// model is a scheduler as the chapter tells it, in plain lists that are made anew with each change.
type model struct {
	quanta, credits []int
	jobs            [][]int
	ring            []int
}

// has tells whether there is such a tenant.
func (m *model) has(tenant int) bool { return tenant >= 0 && tenant < len(m.quanta) }

// owner is the tenant that has a job, or -1.
func (m *model) owner(job int) int {
	for tenant, jobs := range m.jobs {
		if slices.Contains(jobs, job) {
			return tenant
		}
	}
	return -1
}

// without is a list without a number.
func without(l []int, n int) []int {
	var rest []int
	for _, x := range l {
		if x != n {
			rest = append(rest, x)
		}
	}
	return rest
}

// turned is a list whose first number has gone to its end.
func turned(l []int) []int { return append(slices.Clone(l[1:]), l[0]) }

// add is what Add must tell.
func (m *model) add(tenant, job int) api.Errno {
	if !m.has(tenant) {
		return api.ErrNone
	}
	if m.owner(job) >= 0 {
		return api.ErrSame
	}
	m.jobs[tenant] = append(slices.Clone(m.jobs[tenant]), job)
	if !slices.Contains(m.ring, tenant) {
		m.ring = append(slices.Clone(m.ring), tenant)
	}
	return api.OK
}

// remove is what Remove must tell.
func (m *model) remove(job int) api.Errno {
	tenant := m.owner(job)
	if tenant < 0 {
		return api.ErrNone
	}
	m.jobs[tenant] = without(m.jobs[tenant], job)
	if len(m.jobs[tenant]) == 0 {
		m.ring = without(m.ring, tenant)
		m.credits[tenant] = 0
	}
	return api.OK
}

// next is what Next must tell.
func (m *model) next(budget int, left []int) (drr.Turn, bool) {
	if budget < 1 || len(left) != len(m.quanta) {
		return drr.Turn{}, false
	}
	for _, tenant := range m.ring {
		if left[tenant] < 1 {
			m.credits[tenant] = 0
			m.ring = turned(m.ring)
			continue
		}
		if m.credits[tenant] == 0 {
			m.credits[tenant] = m.quanta[tenant]
		}
		return drr.Turn{Tenant: tenant, Job: m.jobs[tenant][0], Steps: min(m.credits[tenant], budget, left[tenant])}, true
	}
	return drr.Turn{}, false
}

// spent is what Spent must tell.
func (m *model) spent(job, used int, stopped bool) api.Errno {
	if len(m.ring) == 0 || m.jobs[m.ring[0]][0] != job {
		return api.ErrNone
	}
	tenant := m.ring[0]
	if used < 0 || used > m.credits[tenant] {
		return api.ErrArg
	}
	m.credits[tenant] -= used
	switch over := m.credits[tenant] == 0; {
	case stopped && len(m.jobs[tenant]) == 1:
		m.remove(job)
	case stopped && over:
		m.remove(job)
		m.ring = turned(m.ring)
	case stopped:
		m.remove(job)
	case over:
		m.jobs[tenant] = turned(m.jobs[tenant])
		m.ring = turned(m.ring)
	}
	return api.OK
}

// watched is a scheduler, and what it must be.
type watched struct {
	t    *testing.T
	s    *drr.Scheduler
	want *model
}

// watch is a new scheduler that is watched.
func watch(t *testing.T, quanta ...int) *watched {
	t.Helper()
	before := slices.Clone(quanta)
	s, e := drr.New(quanta)
	if s == nil || e != api.OK || !slices.Equal(quanta, before) {
		t.Fatalf("New(%v): %v, %v, of %v", quanta, s != nil, e, before)
	}
	w := &watched{t: t, s: s, want: &model{quanta: before, credits: make([]int, len(quanta)), jobs: make([][]int, len(quanta))}}
	w.look()
	return w
}

// look fails unless all that can be asked is as it must be, twice, of all tenants, and of some that there are not.
func (w *watched) look() {
	w.t.Helper()
	for range 2 {
		w.rings(w.want.ring...)
		for tenant := range w.want.quanta {
			w.tells(tenant, w.want.credits[tenant], w.want.jobs[tenant]...)
		}
		for _, tenant := range []int{-1, least, len(w.want.quanta), 1 << 32, greatest} {
			w.tells(tenant, 0)
		}
	}
	w.holds()
}

// holds fails unless 30.5 holds.
func (w *watched) holds() {
	w.t.Helper()
	times := map[int]int{}
	for _, tenant := range w.s.Ring() {
		times[tenant]++
	}
	for tenant, quantum := range w.want.quanta {
		jobs, credit := len(w.s.Jobs(tenant)), w.s.Credit(tenant)
		if times[tenant] != min(jobs, 1) || credit < 0 || credit > quantum {
			w.t.Fatalf("tenant %d of %d jobs stands in the ring %d times, its credit is %d of %d", tenant, jobs, times[tenant], credit, quantum)
		}
	}
}

// rings fails unless these tenants are in the ring, in this order.
func (w *watched) rings(want ...int) {
	w.t.Helper()
	if ring := w.s.Ring(); !slices.Equal(ring, want) {
		w.t.Fatalf("Ring: %v, not %v", ring, want)
	}
}

// tells fails unless this is told of a tenant.
func (w *watched) tells(tenant, credit int, jobs ...int) {
	w.t.Helper()
	if c, j := w.s.Credit(tenant), w.s.Jobs(tenant); c != credit || !slices.Equal(j, jobs) {
		w.t.Fatalf("tenant %d: the credit %d, jobs %v, not %d, %v", tenant, c, j, credit, jobs)
	}
}

// add adds, and looks.
func (w *watched) add(tenant, job int) api.Errno {
	w.t.Helper()
	e := w.s.Add(tenant, job)
	if want := w.want.add(tenant, job); e != want {
		w.t.Fatalf("Add(%d, %d): %v, not %v", tenant, job, e, want)
	}
	w.look()
	return e
}

// all adds jobs of tenants.
func (w *watched) all(jobs ...[2]int) *watched {
	w.t.Helper()
	for _, j := range jobs {
		wants(w.t, "Add", w.add(j[0], j[1]), api.OK)
	}
	return w
}

// remove removes, and looks.
func (w *watched) remove(job int) api.Errno {
	w.t.Helper()
	e := w.s.Remove(job)
	if want := w.want.remove(job); e != want {
		w.t.Fatalf("Remove(%d): %v, not %v", job, e, want)
	}
	w.look()
	return e
}

// next asks for a turn, and looks.
func (w *watched) next(budget int, left ...int) (drr.Turn, bool) {
	w.t.Helper()
	before := slices.Clone(left)
	x, ok := w.s.Next(budget, left)
	if want, is := w.want.next(budget, before); x != want || ok != is || !slices.Equal(left, before) {
		w.t.Fatalf("Next(%d, %v): %v, %v, not %v, %v, of %v", budget, left, x, ok, want, is, before)
	}
	w.look()
	return x, ok
}

// turn fails unless the next turn is this one.
func (w *watched) turn(budget int, left []int, tenant, job, steps int) {
	w.t.Helper()
	if x, ok := w.next(budget, left...); !ok || x != (drr.Turn{Tenant: tenant, Job: job, Steps: steps}) {
		w.t.Fatalf("Next(%d, %v): %v, %v, not %d, %d, %d", budget, left, x, ok, tenant, job, steps)
	}
}

// none fails unless there is no next turn.
func (w *watched) none(budget int, left ...int) {
	w.t.Helper()
	if x, ok := w.next(budget, left...); ok || x != (drr.Turn{}) {
		w.t.Fatalf("Next(%d, %v): %v, %v", budget, left, x, ok)
	}
}

// spent ends a turn, and looks.
func (w *watched) spent(job, used int, stopped bool) api.Errno {
	w.t.Helper()
	e := w.s.Spent(job, used, stopped)
	if want := w.want.spent(job, used, stopped); e != want {
		w.t.Fatalf("Spent(%d, %d, %v): %v, not %v", job, used, stopped, e, want)
	}
	w.look()
	return e
}

// wants fails unless it is this error.
func wants(t *testing.T, what string, e, want api.Errno) {
	t.Helper()
	if e != want {
		t.Errorf("%s: %v, not %v", what, e, want)
	}
}
