package drr_test

import (
	"math/rand"
	"slices"
	"testing"

	"baler/api"
	"baler/drr"
)

// enough is what two tenants may use.
var enough = []int{1000, 1000}

// 30.1: the quanta that may be; a new scheduler has no jobs.
func TestNew(t *testing.T) {
	for _, quanta := range [][]int{
		{1}, {2}, {1 << 40}, {1, 1}, {1<<40 - 1, 1 << 40, 1}, {7, 7, 7}, slices.Repeat([]int{1}, 15), slices.Repeat([]int{1}, 16), slices.Repeat([]int{1 << 40}, 16),
	} {
		w := watch(t, quanta...)
		w.rings()
		w.none(5, slices.Repeat([]int{5}, len(quanta))...)
		wants(t, "Spent of none", w.spent(0, 0, false), api.ErrNone)
		wants(t, "Remove of none", w.remove(0), api.ErrNone)
		for tenant := range quanta {
			wants(t, "Add", w.add(tenant, tenant), api.OK)
		}
	}
}

// 30.1: quanta that may not be: none, too many, and one out of its range, wherever it stands.
func TestNewArguments(t *testing.T) {
	ones := slices.Repeat([]int{1}, 1000)
	bad := [][]int{nil, {}, ones[:17], ones[:18], ones, slices.Repeat([]int{0}, 17)}
	for _, n := range []int{0, -1, -2, least, 1<<40 + 1, 1 << 41, greatest, -1 << 40} {
		bad = append(bad, []int{n}, []int{n, 1}, []int{1, n}, []int{1, n, 1}, append(slices.Clone(ones[:15]), n), append([]int{n}, ones[:15]...), []int{n, n})
	}
	for _, quanta := range bad {
		if s, e := drr.New(quanta); s != nil || e != api.ErrArg {
			t.Errorf("New(%v): %v, %v", quanta[:min(len(quanta), 20)], s != nil, e)
		}
	}
}

// 30.2, 30.3: the example of the chapter, some times over.
func TestExample(t *testing.T) {
	for _, c := range []struct {
		budget int
		turns  []drr.Turn
	}{
		{100, []drr.Turn{{0, 7, 3}, {1, 8, 2}}}, {3, []drr.Turn{{0, 7, 3}, {1, 8, 2}}},
		{2, []drr.Turn{{0, 7, 2}, {0, 7, 1}, {1, 8, 2}}}, {1, []drr.Turn{{0, 7, 1}, {0, 7, 1}, {0, 7, 1}, {1, 8, 1}, {1, 8, 1}}},
	} {
		w := watch(t, 3, 2).all([2]int{0, 7}, [2]int{1, 8})
		for range 3 {
			for _, x := range c.turns {
				w.turn(c.budget, enough, x.Tenant, x.Job, x.Steps)
				wants(t, "Spent", w.spent(x.Job, x.Steps, false), api.OK)
			}
		}
	}
}

// 30.1: jobs stand in the order in which they were added, and tenants in that of their first ones.
func TestAdd(t *testing.T) {
	w := watch(t, 3, 2, 5)
	w.all([2]int{2, 4}, [2]int{0, -1}, [2]int{2, 0}, [2]int{0, least}, [2]int{1, greatest}, [2]int{2, 3})
	w.rings(2, 0, 1)
	w.tells(2, 0, 4, 0, 3)
	w.tells(0, 0, -1, least)
	w.tells(1, 0, greatest)
}

// 30.1: of a tenant that there is not, ErrNone comes ahead of ErrSame; a job is in one queue alone, at any place of it.
func TestAddArguments(t *testing.T) {
	for tenants := 1; tenants <= 16; tenants++ {
		w := watch(t, slices.Repeat([]int{5}, tenants)...)
		for tenant := range tenants {
			w.all([2]int{tenant, tenant}, [2]int{tenant, 100 + tenant}, [2]int{tenant, 200 + tenant})
		}
		for _, tenant := range []int{-1, -2, -tenants, least, tenants, tenants + 1, 16, 17, 1 << 32, greatest} {
			if tenant >= 0 && tenant < tenants {
				continue
			}
			wants(t, "Add of nobody", w.add(tenant, 0), api.ErrNone)
			wants(t, "Add of nobody", w.add(tenant, 1000), api.ErrNone)
		}
		for tenant := range tenants {
			for _, job := range []int{0, tenants - 1, 100, 100 + tenants/2, 199 + tenants, 200} {
				wants(t, "Add again", w.add(tenant, job), api.ErrSame)
			}
		}
	}
}

// 30.1: more jobs than a server has at a time.
func TestManyJobs(t *testing.T) {
	w := watch(t, 1, 1)
	for job := range 200 {
		wants(t, "Add", w.add(job%2, job), api.OK)
	}
	for job := range 400 {
		w.turn(9, enough, job%2, job%200, 1)
		wants(t, "Spent", w.spent(job%200, 1, false), api.OK)
	}
}

// 30.1: a job goes out of its place; with the last one its tenant goes out of the ring, and its credit with it.
func TestRemove(t *testing.T) {
	for place := range 3 {
		w := watch(t, 5, 5, 5).all([2]int{0, 1}, [2]int{1, 11}, [2]int{1, 12}, [2]int{1, 13}, [2]int{2, 21})
		want := []int{11, 12, 13}
		wants(t, "Remove", w.remove(want[place]), api.OK)
		wants(t, "Remove again", w.remove(want[place]), api.ErrNone)
		w.tells(1, 0, slices.Delete(want, place, place+1)...)
		w.rings(0, 1, 2)
	}
	for _, c := range []struct {
		job  int
		ring []int
	}{{1, []int{1, 2}}, {11, []int{0, 2}}, {21, []int{0, 1}}} {
		w := watch(t, 5, 5, 5).all([2]int{0, 1}, [2]int{1, 11}, [2]int{2, 21})
		w.turn(2, []int{9, 9, 9}, 0, 1, 2)
		wants(t, "Spent", w.spent(1, 2, false), api.OK)
		wants(t, "Remove", w.remove(c.job), api.OK)
		w.rings(c.ring...)
		wants(t, "Add", w.add(c.job/10, c.job), api.OK)
		w.rings(append(c.ring, c.job/10)...)
		w.tells(c.job/10, 0, c.job)
	}
}

// 30.1: of a job that no queue has, ErrNone.
func TestRemoveArguments(t *testing.T) {
	w := watch(t, 5, 5).all([2]int{0, 1}, [2]int{1, 11})
	for _, job := range []int{0, 2, -1, 10, 12, least, greatest, 1<<32 + 1} {
		wants(t, "Remove", w.remove(job), api.ErrNone)
	}
	w.rings(0, 1)
}

// 30.1: if the job whose turn it is goes, its tenant stays where it is, with the credit that is left, for the next one.
func TestRemoveAtTurn(t *testing.T) {
	w := watch(t, 5, 5).all([2]int{0, 1}, [2]int{0, 2}, [2]int{0, 3}, [2]int{1, 11})
	w.turn(3, enough, 0, 1, 3)
	wants(t, "Spent", w.spent(1, 3, false), api.OK)
	wants(t, "Remove", w.remove(1), api.OK)
	w.tells(0, 2, 2, 3)
	w.turn(9, enough, 0, 2, 2)
	wants(t, "Remove", w.remove(2), api.OK)
	wants(t, "Spent of one that is gone", w.spent(2, 2, false), api.ErrNone)
	w.turn(9, enough, 0, 3, 2)
	wants(t, "Remove", w.remove(3), api.OK)
	w.tells(0, 0)
	wants(t, "Spent of one that is gone", w.spent(3, 0, true), api.ErrNone)
	w.turn(9, enough, 1, 11, 5)
}

// 30.2: a turn is as long as the least of the credit, the budget and what may be used.
func TestSteps(t *testing.T) {
	for _, c := range []struct{ quantum, budget, left, want int }{
		{5, 5, 5, 5}, {5, 6, 6, 5}, {5, 4, 6, 4}, {5, 6, 4, 4}, {5, 3, 4, 3}, {5, 4, 3, 3}, {5, 1, 9, 1}, {5, 9, 1, 1}, {1, 1, 1, 1}, {1, 9, 9, 1},
		{1 << 40, greatest, greatest, 1 << 40}, {1 << 40, 1 << 40, 1<<40 - 1, 1<<40 - 1}, {1 << 40, 1<<40 - 1, 1 << 40, 1<<40 - 1}, {7, greatest, 1 << 62, 7}, {7, 1<<32 + 1, 1 << 32, 7},
	} {
		w := watch(t, c.quantum).all([2]int{0, 3})
		w.turn(c.budget, []int{c.left}, 0, 3, c.want)
		w.tells(0, c.quantum, 3)
	}
}

// 30.2: asked again, without Spent, it tells the same turn, but for the budget and what may be used.
func TestNextAgain(t *testing.T) {
	w := watch(t, 5, 4).all([2]int{0, 1}, [2]int{0, 2}, [2]int{1, 11})
	for range 3 {
		w.turn(9, enough, 0, 1, 5)
		w.turn(2, enough, 0, 1, 2)
		w.turn(9, []int{3, 3}, 0, 1, 3)
	}
	wants(t, "Spent", w.spent(1, 1, false), api.OK)
	for range 3 {
		w.turn(9, enough, 0, 1, 4)
		w.turn(3, enough, 0, 1, 3)
	}
}

// 30.2: a tenant's credit becomes its quantum only where it is 0.
func TestCredit(t *testing.T) {
	w := watch(t, 5).all([2]int{0, 1})
	for _, credit := range []int{5, 4, 3, 2, 1, 5, 4} {
		w.turn(9, []int{9}, 0, 1, credit)
		w.tells(0, credit, 1)
		wants(t, "Spent", w.spent(1, 1, false), api.OK)
		w.tells(0, credit-1, 1)
	}
}

// 30.2: a false for the budget or the numbers changes nothing, also where credits are.
func TestNextArguments(t *testing.T) {
	for _, c := range []struct {
		budget int
		left   []int
	}{
		{0, enough}, {-1, enough}, {least, enough}, {0, []int{0, 0}}, {-1, []int{0, 9}}, {5, nil}, {5, []int{}}, {5, []int{9}}, {5, []int{0}}, {5, []int{9, 9, 9}}, {5, []int{0, 0, 0}}, {0, nil}, {5, make([]int, 16)},
	} {
		w := watch(t, 5, 5).all([2]int{0, 1}, [2]int{1, 11})
		w.none(c.budget, c.left...)
		w.turn(2, enough, 0, 1, 2)
		wants(t, "Spent", w.spent(1, 2, false), api.OK)
		w.none(c.budget, c.left...)
		w.tells(0, 3, 1)
		w.rings(0, 1)
	}
}

// 30.2: those that may use nothing are gone by, lose their credit, and go to the ring's end.
func TestGoneBy(t *testing.T) {
	w := watch(t, 5, 6, 7).all([2]int{0, 1}, [2]int{1, 11}, [2]int{2, 21})
	w.turn(2, []int{9, 9, 9}, 0, 1, 2)
	wants(t, "Spent", w.spent(1, 2, false), api.OK)
	w.turn(9, []int{0, 9, 9}, 1, 11, 6)
	w.rings(1, 2, 0)
	w.tells(0, 0, 1)
	w.turn(9, []int{9, -1, least}, 0, 1, 5)
	w.rings(0, 1, 2)
	w.turn(9, []int{0, 0, 1}, 2, 21, 1)
	w.rings(2, 0, 1)
	w.tells(0, 0, 1)
	wants(t, "Spent", w.spent(21, 1, false), api.OK)
	w.tells(2, 6, 21)
	w.turn(9, []int{1, 1, 0}, 0, 1, 1)
	w.rings(0, 1, 2)
	w.tells(2, 0, 21)
}

// 30.2: if nobody of the ring may use something, each is looked at once: all credits are 0, and the ring is as it was; what others may use does not matter.
func TestNobody(t *testing.T) {
	w := watch(t, 5, 6, 7).all([2]int{2, 21}, [2]int{0, 1})
	w.turn(2, []int{9, 9, 9}, 2, 21, 2)
	for _, left := range [][]int{{0, 0, 0}, {0, 9, 0}, {-1, 1, least}} {
		w.none(5, left...)
		w.rings(2, 0)
		w.tells(2, 0, 21)
	}
	w.turn(9, []int{9, 9, 9}, 2, 21, 7)
}

// 30.2: without jobs, nothing changes, whatever may be used; nor where the jobs went.
func TestNoJobs(t *testing.T) {
	w := watch(t, 5, 5)
	for range 3 {
		w.none(5, 9, 9)
		w.none(5, 0, 0)
		w.all([2]int{1, 11})
		w.turn(5, enough, 1, 11, 5)
		wants(t, "Remove", w.remove(11), api.OK)
	}
}

// 30.3: only the front job of the ring's first tenant may have used something; ErrNone comes ahead of ErrArg.
func TestSpentOfOthers(t *testing.T) {
	w := watch(t, 5, 5).all([2]int{1, 11}, [2]int{1, 12}, [2]int{0, 1})
	w.turn(9, enough, 1, 11, 5)
	for _, job := range []int{12, 1, 0, -1, 2, 13, least, greatest, 1<<32 + 11} {
		for _, used := range []int{0, 1, 5, 6, -1, least, greatest} {
			for _, stopped := range []bool{false, true} {
				wants(t, "Spent of another", w.spent(job, used, stopped), api.ErrNone)
			}
		}
	}
	none := watch(t, 5)
	for range 2 {
		for _, job := range []int{0, 1, -1, least, greatest} {
			wants(t, "Spent of none", none.spent(job, 0, false), api.ErrNone)
			wants(t, "Spent of none", none.spent(job, -1, true), api.ErrNone)
		}
		none.all([2]int{0, 0})
		wants(t, "Remove", none.remove(0), api.OK)
	}
}

// 30.3: what may have been used is from 0 to the credit, also beyond the turn's steps.
func TestSpentArguments(t *testing.T) {
	for _, stopped := range []bool{false, true} {
		w := watch(t, 5, 5).all([2]int{0, 1}, [2]int{0, 2}, [2]int{1, 11})
		w.turn(2, enough, 0, 1, 2)
		for _, used := range []int{-1, 6, 7, -5, least, greatest, 1 << 40, 1 << 32} {
			wants(t, "Spent", w.spent(1, used, stopped), api.ErrArg)
			w.tells(0, 5, 1, 2)
		}
		wants(t, "Spent", w.spent(1, 4, stopped), api.OK)
		if c := w.s.Credit(0); c != 1 {
			t.Errorf("the credit %d", c)
		}
	}
	for _, quantum := range []int{1, 1 << 40} {
		for used := range 3 {
			w := watch(t, quantum).all([2]int{0, 1})
			w.turn(greatest, []int{greatest}, 0, 1, quantum)
			wants(t, "Spent too much", w.spent(1, quantum+1, false), api.ErrArg)
			wants(t, "Spent", w.spent(1, min(used, quantum), false), api.OK)
		}
	}
}

// 30.3: how a turn ends, by what was used, whether the job stops, and whether others are left.
func TestEnds(t *testing.T) {
	for _, c := range []struct {
		jobs    []int
		used    int
		stopped bool
		left    []int
		credit  int
		ring    []int
	}{
		{[]int{1}, 0, false, []int{1}, 5, []int{0, 1, 2}},
		{[]int{1}, 4, false, []int{1}, 1, []int{0, 1, 2}},
		{[]int{1}, 5, false, []int{1}, 0, []int{1, 2, 0}},
		{[]int{1}, 0, true, nil, 0, []int{1, 2}},
		{[]int{1}, 4, true, nil, 0, []int{1, 2}},
		{[]int{1}, 5, true, nil, 0, []int{1, 2}},
		{[]int{1, 2}, 0, false, []int{1, 2}, 5, []int{0, 1, 2}},
		{[]int{1, 2}, 4, false, []int{1, 2}, 1, []int{0, 1, 2}},
		{[]int{1, 2}, 5, false, []int{2, 1}, 0, []int{1, 2, 0}},
		{[]int{1, 2}, 0, true, []int{2}, 5, []int{0, 1, 2}},
		{[]int{1, 2}, 4, true, []int{2}, 1, []int{0, 1, 2}},
		{[]int{1, 2}, 5, true, []int{2}, 0, []int{1, 2, 0}},
		{[]int{1, 2, 3}, 5, false, []int{2, 3, 1}, 0, []int{1, 2, 0}},
		{[]int{1, 2, 3}, 4, true, []int{2, 3}, 1, []int{0, 1, 2}},
		{[]int{1, 2, 3}, 5, true, []int{2, 3}, 0, []int{1, 2, 0}},
	} {
		w := watch(t, 5, 5, 5)
		for _, job := range c.jobs {
			wants(t, "Add", w.add(0, job), api.OK)
		}
		w.all([2]int{1, 11}, [2]int{2, 21})
		w.turn(9, []int{9, 9, 9}, 0, 1, 5)
		wants(t, "Spent", w.spent(1, c.used, c.stopped), api.OK)
		w.tells(0, c.credit, c.left...)
		w.rings(c.ring...)
		w.tells(1, 0, 11)
	}
}

// 30.3: a turn may end that nobody asked for: without a credit nothing can have been used, and the next ones come.
func TestEndsUnasked(t *testing.T) {
	w := watch(t, 5, 5).all([2]int{0, 1}, [2]int{0, 2}, [2]int{1, 11})
	wants(t, "Spent too much", w.spent(1, 1, false), api.ErrArg)
	wants(t, "Spent", w.spent(1, 0, false), api.OK)
	w.rings(1, 0)
	w.tells(0, 0, 2, 1)
	wants(t, "Spent", w.spent(11, 0, true), api.OK)
	w.rings(0)
	wants(t, "Spent", w.spent(2, 0, true), api.OK)
	w.rings(0)
	w.tells(0, 0, 1)
	wants(t, "Spent", w.spent(1, 0, true), api.OK)
	w.rings()
}

// 30.3: of tenants that there are not, nothing is told.
func TestNoTenant(t *testing.T) {
	for tenants := 1; tenants <= 16; tenants++ {
		w := watch(t, slices.Repeat([]int{5}, tenants)...)
		for tenant := range tenants {
			w.all([2]int{tenant, tenant})
		}
		w.turn(1, slices.Repeat([]int{5}, tenants), 0, 0, 1)
		for _, tenant := range []int{-1, -tenants, least, tenants, tenants + 1, 17, 1 << 32, greatest} {
			w.tells(tenant, 0)
		}
	}
}

// fairness is who has used how much since when.
type fairness struct {
	t      *testing.T
	quanta []int
	used   [][]int // of a tenant, since another one came
}

// newFairness is one of nothing.
func newFairness(t *testing.T, quanta []int) *fairness {
	f := &fairness{t: t, quanta: quanta, used: make([][]int, len(quanta))}
	for i := range f.used {
		f.used[i] = make([]int, len(quanta))
	}
	return f
}

// came forgets what was used ahead of a tenant.
func (f *fairness) came(tenant int) {
	for other := range f.quanta {
		f.used[tenant][other], f.used[other][tenant] = 0, 0
	}
}

// spent fails unless any two of the ring's tenants, each of whose steps are counted since both are there, are fair by their quanta.
func (f *fairness) spent(x drr.Turn, ring []int) {
	f.t.Helper()
	for other := range f.quanta {
		f.used[x.Tenant][other] += x.Steps
	}
	for _, a := range ring {
		for _, b := range ring {
			if a != b && f.used[a][b]*f.quanta[b]-f.used[b][a]*f.quanta[a] > f.quanta[a]*f.quanta[b] {
				f.t.Fatalf("%d steps of the quantum %d, %d of %d", f.used[a][b], f.quanta[a], f.used[b][a], f.quanta[b])
			}
		}
	}
}

// 30.4: turns are fair among all tenants, however they are cut, how many jobs each has, and whoever comes later.
func TestFair(t *testing.T) {
	for seed := range 80 {
		random := rand.New(rand.NewSource(int64(seed)))
		quanta := make([]int, 2+random.Intn(15))
		left := make([]int, len(quanta))
		for i := range quanta {
			quanta[i] = 1 + random.Intn(1<<random.Intn(12))
			left[i] = 1 << 40
		}
		w, f := watch(t, quanta...), newFairness(t, quanta)
		most := 1 + random.Intn(1<<random.Intn(13))
		for job := range 400 {
			if tenant := random.Intn(len(quanta)); job < 5 || random.Intn(8) == 0 {
				if len(w.s.Jobs(tenant)) == 0 {
					f.came(tenant)
				}
				w.all([2]int{tenant, job})
			}
			x, ok := w.next(1+random.Intn(most), left...)
			if !ok {
				t.Fatal("no turn")
			}
			wants(t, "Spent", w.spent(x.Job, x.Steps, false), api.OK)
			f.spent(x, w.s.Ring())
		}
	}
}

// 30.4: within a tenant, its jobs take turns of a quantum each, also where a budget cuts it.
func TestJobsTakeTurns(t *testing.T) {
	w := watch(t, 4, 3).all([2]int{0, 1}, [2]int{0, 2}, [2]int{0, 3}, [2]int{1, 11})
	used := map[int]int{}
	for range 5 * 3 * 3 {
		x, _ := w.next(3, enough...)
		used[x.Job] += x.Steps
		wants(t, "Spent", w.spent(x.Job, x.Steps, false), api.OK)
	}
	if used[1] != 5*4 || used[2] != 5*4 || used[3] != 5*4 || used[11] != 5*9 {
		t.Errorf("of 1, 2, 3 and 11: %d, %d, %d, %d steps", used[1], used[2], used[3], used[11])
	}
}

// someLeft is what tenants may yet use, often nothing.
func someLeft(random *rand.Rand, tenants int) []int {
	left := make([]int, tenants)
	for i := range left {
		left[i] = max(random.Intn(12)-4, random.Intn(3)-1)
	}
	return left
}

// 30.1 to 30.3, 30.5: many calls, right ones and wrong ones.
func TestMany(t *testing.T) {
	for seed := range 150 {
		random := rand.New(rand.NewSource(int64(seed)))
		quanta := make([]int, 1+random.Intn(1+random.Intn(16)))
		for i := range quanta {
			quanta[i] = 1 + random.Intn(1+random.Intn(9))
		}
		w := watch(t, quanta...)
		few := 2 + random.Intn(40)
		for range 300 {
			tenant, job := random.Intn(len(quanta)+2)-1, random.Intn(few)
			switch random.Intn(9) {
			case 0, 1, 2:
				w.add(tenant, job)
			case 3:
				w.remove(job)
			case 4:
				w.next(random.Intn(4)-1, someLeft(random, len(quanta)+random.Intn(3)-1)...)
			case 5:
				w.spent(job, random.Intn(4)-1, random.Intn(2) == 0)
			default:
				if x, ok := w.next(1+random.Intn(8), someLeft(random, len(quanta))...); ok {
					w.spent(x.Job, random.Intn(x.Steps+1+random.Intn(2)), random.Intn(4) == 0)
				}
			}
		}
	}
}

// R3: the scheduler has memory of its own, and what it tells, too.
func TestOwnMemory(t *testing.T) {
	quanta := []int{5, 6}
	s, _ := drr.New(quanta)
	quanta[0], quanta[1] = 1, 1
	w := &watched{t: t, s: s, want: &model{quanta: []int{5, 6}, credits: make([]int, 2), jobs: make([][]int, 2)}}
	w.all([2]int{0, 1}, [2]int{0, 2}, [2]int{1, 11}, [2]int{1, 12})
	ring, jobs := s.Ring(), s.Jobs(0)
	left := []int{9, 9}
	w.turn(9, left, 0, 1, 5)
	left[0], left[1] = 0, 0
	wants(t, "Spent", w.spent(1, 5, false), api.OK)
	w.turn(9, enough, 1, 11, 6)
	if !slices.Equal(ring, []int{0, 1}) || !slices.Equal(jobs, []int{1, 2}) || quanta[0] != 1 {
		t.Errorf("what was told became %v, %v, what was handed in %v", ring, jobs, quanta)
	}
	for _, l := range [][]int{ring, jobs, s.Ring(), s.Jobs(0), s.Jobs(1)} {
		for i := range l {
			l[i] = 77
		}
		w.look()
	}
}

// R6: schedulers side by side know nothing of each other, and the same calls tell the same.
func TestSideBySide(t *testing.T) {
	a, b, c := watch(t, 3, 4), watch(t, 3, 4), watch(t, 4, 3).all([2]int{0, 1}, [2]int{1, 2})
	random := rand.New(rand.NewSource(9))
	for range 300 {
		tenant, job, budget, left := random.Intn(2), random.Intn(6), 1+random.Intn(5), someLeft(random, 2)
		if e, f := a.add(tenant, job), b.add(tenant, job); e != f {
			t.Fatalf("Add: %v and %v", e, f)
		}
		c.look()
		x, ok := a.next(budget, left...)
		if y, is := b.next(budget, left...); x != y || ok != is {
			t.Fatalf("Next: %v and %v", x, y)
		}
		if e, f := a.spent(x.Job, x.Steps, job == 0), b.spent(x.Job, x.Steps, job == 0); e != f {
			t.Fatalf("Spent: %v and %v", e, f)
		}
		c.look()
	}
}

// R6: of nil, and of a scheduler that New did not make, which is as nil: ErrState ahead of all else, false, 0, none; and it stays so.
func TestNil(t *testing.T) {
	var none *drr.Scheduler
	for _, s := range []*drr.Scheduler{none, {}, new(drr.Scheduler)} {
		for range 3 {
			for _, n := range []int{0, 1, -1, 16, least, greatest} {
				wants(t, "Add of nil", s.Add(n, n), api.ErrState)
				wants(t, "Remove of nil", s.Remove(n), api.ErrState)
				wants(t, "Spent of nil", s.Spent(n, 0, false), api.ErrState)
				wants(t, "Spent of nil", s.Spent(0, n, true), api.ErrState)
				if s.Credit(n) != 0 || len(s.Jobs(n)) != 0 {
					t.Errorf("tenant %d of nil: %d, %v", n, s.Credit(n), s.Jobs(n))
				}
				for _, left := range [][]int{nil, {}, {5}, {5, 5}} {
					if x, ok := s.Next(n, left); ok || x != (drr.Turn{}) {
						t.Errorf("Next(%d, %v) of nil: %v, %v", n, left, x, ok)
					}
				}
			}
			if len(s.Ring()) != 0 {
				t.Errorf("Ring of nil: %v", s.Ring())
			}
		}
	}
}
