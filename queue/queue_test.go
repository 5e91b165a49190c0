package queue_test

import (
	"math/rand"
	"slices"
	"testing"

	"baler/api"
	"baler/queue"
)

// least and greatest are the ends of all numbers.
const (
	least    = -1 << 63
	greatest = 1<<63 - 1
)

// strangers are numbers that no test pushes, but where it says so.
var strangers = []int{1 << 50, -1 << 50, 1<<50 + 1}

// model is a queue as the chapter tells it: each number has a ticket, and who comes behind all others gets the next one.
type model struct {
	limit   int
	next    int
	tickets map[int]int
}

// order are all numbers, by their tickets.
func (m *model) order() []int {
	var all []int
	for n := range m.tickets {
		all = append(all, n)
	}
	slices.SortFunc(all, func(a, b int) int { return m.tickets[a] - m.tickets[b] })
	return all
}

// has tells whether a number is there.
func (m *model) has(n int) bool {
	_, ok := m.tickets[n]
	return ok
}

// back puts a number behind all others.
func (m *model) back(n int) {
	m.tickets[n] = m.next
	m.next++
}

// push is what Push must tell.
func (m *model) push(n int) api.Errno {
	if m.has(n) {
		return api.ErrSame
	}
	if len(m.tickets) >= m.limit {
		return api.ErrFull
	}
	m.back(n)
	return api.OK
}

// front is what Front must tell.
func (m *model) front() (int, api.Errno) {
	if len(m.tickets) == 0 {
		return 0, api.ErrNone
	}
	return m.order()[0], api.OK
}

// remove is what Remove must tell.
func (m *model) remove(n int) api.Errno {
	if !m.has(n) {
		return api.ErrNone
	}
	delete(m.tickets, n)
	return api.OK
}

// watched is a queue, and what it must be.
type watched struct {
	t    *testing.T
	q    *queue.Queue
	want *model
}

// made is a new queue.
func made(t *testing.T, limit int) *queue.Queue {
	t.Helper()
	q, e := queue.New(limit)
	if q == nil || e != api.OK {
		t.Fatalf("New(%d): %v, %v", limit, q != nil, e)
	}
	return q
}

// watch is a new queue that is watched, with these numbers.
func watch(t *testing.T, limit int, numbers ...int) *watched {
	t.Helper()
	w := &watched{t: t, q: made(t, limit), want: &model{limit: limit, tickets: map[int]int{}}}
	w.look()
	for _, n := range numbers {
		wants(t, "Push", w.push(n), api.OK)
	}
	return w
}

// look fails unless all that can be asked is as it must be, twice.
func (w *watched) look() {
	w.t.Helper()
	for range 2 {
		order := w.want.order()
		w.has(order...)
		front, want := w.want.front()
		if n, e := w.q.Front(); n != front || e != want {
			w.t.Fatalf("Front of %v: %d, %v, not %d, %v", order, n, e, front, want)
		}
		for _, n := range order {
			if !w.q.Has(n) {
				w.t.Fatalf("Has(%d) of %v: false", n, order)
			}
		}
		for _, n := range append([]int{0, 1, -1, 2, 3, 100, least, greatest}, strangers...) {
			if w.q.Has(n) != w.want.has(n) {
				w.t.Fatalf("Has(%d) of %v: %v", n, order, w.q.Has(n))
			}
		}
	}
}

// has fails unless the queue has these numbers, in this order.
func (w *watched) has(want ...int) {
	w.t.Helper()
	if all, n := w.q.All(), w.q.Len(); !slices.Equal(all, want) || n != len(want) {
		w.t.Fatalf("All: %v, Len: %d, not %v", all, n, want)
	}
}

// push pushes, and looks.
func (w *watched) push(n int) api.Errno {
	w.t.Helper()
	e := w.q.Push(n)
	if want := w.want.push(n); e != want {
		w.t.Fatalf("Push(%d): %v, not %v", n, e, want)
	}
	w.look()
	return e
}

// pop pops, and looks.
func (w *watched) pop() (int, api.Errno) {
	w.t.Helper()
	n, e := w.q.Pop()
	front, want := w.want.front()
	w.want.remove(front)
	if n != front || e != want {
		w.t.Fatalf("Pop: %d, %v, not %d, %v", n, e, front, want)
	}
	w.look()
	return n, e
}

// remove takes out, and looks.
func (w *watched) remove(n int) api.Errno {
	w.t.Helper()
	e := w.q.Remove(n)
	if want := w.want.remove(n); e != want {
		w.t.Fatalf("Remove(%d): %v, not %v", n, e, want)
	}
	w.look()
	return e
}

// rotate rotates, and looks.
func (w *watched) rotate() {
	w.t.Helper()
	w.q.Rotate()
	if front, e := w.want.front(); e == api.OK {
		w.want.back(front)
	}
	w.look()
}

// wants fails unless it is this error.
func wants(t *testing.T, what string, e, want api.Errno) {
	t.Helper()
	if e != want {
		t.Errorf("%s: %v, not %v", what, e, want)
	}
}

// row are so many numbers from 0 on.
func row(n int) []int {
	l := make([]int, n)
	for i := range l {
		l[i] = i
	}
	return l
}

// 29.1: the limits that may be; the greatest one takes no room.
func TestNew(t *testing.T) {
	for _, limit := range []int{1, 2, 3, 64, 1<<32 + 1, 1<<40 - 1, 1 << 40} {
		w := watch(t, limit)
		w.has()
		wants(t, "Push", w.push(7), api.OK)
		w.has(7)
	}
}

// 29.1: limits that may not be.
func TestNewArguments(t *testing.T) {
	for _, limit := range []int{0, -1, -2, -1 << 40, least, 1<<40 + 1, 1 << 41, 1 << 62, greatest} {
		if q, e := queue.New(limit); q != nil || e != api.ErrArg {
			t.Errorf("New(%d): %v, %v", limit, q != nil, e)
		}
	}
}

// 29.1, 29.2: the example of the chapter.
func TestExample(t *testing.T) {
	w := watch(t, 3, 3, 1, 2)
	w.has(3, 1, 2)
	w.rotate()
	w.has(1, 2, 3)
	wants(t, "Remove 2", w.remove(2), api.OK)
	w.has(1, 3)
}

// 29.1: any number may be pushed, each once at a time, and again when it is gone.
func TestPush(t *testing.T) {
	numbers := []int{7, -1, 0, least, greatest, 1, 1 << 40, 1<<40 + 1, -1 << 40, 1 << 32}
	w := watch(t, 64)
	for i, n := range numbers {
		wants(t, "Push", w.push(n), api.OK)
		for _, there := range numbers[:i+1] {
			wants(t, "Push again", w.push(there), api.ErrSame)
		}
	}
	w.has(numbers...)
	for i, n := range numbers {
		wants(t, "Remove", w.remove(n), api.OK)
		wants(t, "Push behind Remove", w.push(n), api.OK)
		w.has(append(slices.Clone(numbers[i+1:]), numbers[:i+1]...)...)
	}
	for range numbers {
		n, e := w.pop()
		wants(t, "Pop", e, api.OK)
		wants(t, "Push behind Pop", w.push(n), api.OK)
	}
	w.has(numbers...)
}

// 29.1: as many as the limit, and no more; of one that is there ErrSame is told, also where all is full; what goes makes room.
func TestFull(t *testing.T) {
	for limit := 1; limit <= 20; limit++ {
		w := watch(t, limit, row(limit)...)
		for range 3 {
			wants(t, "Push more", w.push(100), api.ErrFull)
			wants(t, "Push more", w.push(-1), api.ErrFull)
			w.has(row(limit)...)
		}
		for n := range limit {
			wants(t, "Push again", w.push(n), api.ErrSame)
		}
		w.rotate()
		wants(t, "Push behind Rotate", w.push(100), api.ErrFull)
		w.pop()
		wants(t, "Push behind Pop", w.push(100), api.OK)
		wants(t, "Push more", w.push(200), api.ErrFull)
		wants(t, "Remove", w.remove(100), api.OK)
		wants(t, "Remove", w.remove(100), api.ErrNone)
		wants(t, "Push behind Remove", w.push(200), api.OK)
		wants(t, "Push more", w.push(100), api.ErrFull)
		wants(t, "Push again", w.push(200), api.ErrSame)
	}
}

// 29.1: of none, nothing is popped, and nothing is at the front, whether there was something or not.
func TestNone(t *testing.T) {
	w := watch(t, 2)
	for round := range 4 {
		if n, e := w.pop(); n != 0 || e != api.ErrNone {
			t.Errorf("Pop of none: %d, %v", n, e)
		}
		if n, e := w.q.Front(); n != 0 || e != api.ErrNone {
			t.Errorf("Front of none: %d, %v", n, e)
		}
		wants(t, "Remove of none", w.remove(0), api.ErrNone)
		wants(t, "Remove of none", w.remove(5), api.ErrNone)
		w.rotate()
		w.has()
		wants(t, "Push", w.push(5), api.OK)
		wants(t, "Push", w.push(9), api.OK)
		if round%2 == 0 {
			wants(t, "Remove", w.remove(9), api.OK)
			wants(t, "Remove", w.remove(5), api.OK)
		} else {
			w.pop()
			w.pop()
		}
	}
}

// 29.1: the front stays where it is asked for, and is gone where it is popped.
func TestFront(t *testing.T) {
	w := watch(t, 3, 4, 0, -6)
	for _, want := range []int{4, 0, -6} {
		for range 3 {
			if n, e := w.q.Front(); n != want || e != api.OK {
				t.Errorf("Front: %d, %v, not %d", n, e, want)
			}
		}
		if n, e := w.pop(); n != want || e != api.OK {
			t.Errorf("Pop: %d, %v, not %d", n, e, want)
		}
		if w.q.Has(want) {
			t.Errorf("%d is there behind Pop", want)
		}
	}
}

// 29.2: each one is taken out of its place, two behind each other, and the others stay in their order.
func TestRemove(t *testing.T) {
	for length := 1; length <= 9; length++ {
		for first := range length {
			for second := range length {
				for turned := range 3 {
					w := watch(t, length, row(length)...)
					for range turned {
						w.rotate()
					}
					want := w.q.All()
					wants(t, "Remove", w.remove(first), api.OK)
					want = slices.DeleteFunc(want, func(n int) bool { return n == first })
					w.has(want...)
					e := w.remove(second)
					if (e == api.OK) != (first != second) {
						t.Errorf("Remove(%d) behind %d of %d: %v", second, first, length, e)
					}
					w.has(slices.DeleteFunc(want, func(n int) bool { return n == second })...)
					wants(t, "Push behind Remove", w.push(first), api.OK)
				}
			}
		}
	}
}

// 29.2: of one that is not there, ErrNone, and nothing changes.
func TestRemoveStrangers(t *testing.T) {
	w := watch(t, 5, 1, 2, 3)
	for _, n := range append([]int{0, 4, -1, least, greatest, 1 << 32, 1<<32 + 1}, strangers...) {
		wants(t, "Remove", w.remove(n), api.ErrNone)
		w.has(1, 2, 3)
	}
}

// 29.2, 29.4: rotated step by step, and as often as there are numbers, some times over; of one and of none nothing changes.
func TestRotate(t *testing.T) {
	for length := range 20 {
		w := watch(t, 20, row(length)...)
		for times := range 3*length + 3 {
			want := row(length)
			if length > 0 {
				want = append(want[times%length:], want[:times%length]...)
			}
			w.has(want...)
			w.rotate()
		}
	}
}

// 29.3: what is pushed is popped in the same order, while more comes and goes.
func TestOrder(t *testing.T) {
	for _, room := range []int{1, 2, 3, 7, 16, 64} {
		w := watch(t, room)
		next, due := 0, 0
		for round := range 60 {
			for range 1 + round%room {
				if w.push(next*3) == api.OK {
					next++
				}
			}
			for range 1 + round*5%room {
				n, e := w.pop()
				if e == api.OK && n != due*3 {
					t.Fatalf("the room %d: %d, not %d", room, n, due*3)
				}
				if e == api.OK {
					due++
				}
			}
		}
		if next-due != w.q.Len() {
			t.Errorf("the room %d: %d pushed, %d popped, %d there", room, next, due, w.q.Len())
		}
	}
}

// 29.3, 29.4: many numbers, rotated all round, and popped as they came.
func TestLong(t *testing.T) {
	const length = 20000
	q := made(t, length)
	for n := range length {
		wants(t, "Push", q.Push(n), api.OK)
	}
	wants(t, "Push more", q.Push(length), api.ErrFull)
	for range length {
		q.Rotate()
	}
	if !slices.Equal(q.All(), row(length)) {
		t.Error("rotated all round, it is another one")
	}
	for range 10 * length {
		q.Rotate()
	}
	for want := range length {
		if n, e := q.Pop(); n != want || e != api.OK {
			t.Fatalf("Pop: %d, %v, not %d", n, e, want)
		}
	}
	if q.Len() != 0 || len(q.All()) != 0 {
		t.Errorf("%d are left", q.Len())
	}
}

// 29.1 to 29.4: many calls, right ones and wrong ones.
func TestMany(t *testing.T) {
	for seed := range 100 {
		random := rand.New(rand.NewSource(int64(seed)))
		w := watch(t, 1+random.Intn(20))
		few := 1 + random.Intn(30)
		for range 200 {
			n := random.Intn(few) - 3
			switch random.Intn(7) {
			case 0, 1, 2:
				w.push(n)
			case 3:
				w.pop()
			case 4:
				w.remove(n)
			default:
				w.rotate()
			}
		}
		before := w.q.All()
		for range before {
			w.rotate()
		}
		w.has(before...)
	}
}

// R3: what All told has memory of its own: neither a caller that writes there, nor a later call, changes the other.
func TestOwnMemory(t *testing.T) {
	changes := map[string]func(*queue.Queue){
		"Push":         func(q *queue.Queue) { q.Push(9) },
		"Pop":          func(q *queue.Queue) { q.Pop() },
		"Remove front": func(q *queue.Queue) { q.Remove(1) },
		"Remove":       func(q *queue.Queue) { q.Remove(2) },
		"Remove back":  func(q *queue.Queue) { q.Remove(4) },
		"Rotate":       func(q *queue.Queue) { q.Rotate() },
		"All":          func(q *queue.Queue) { q.All()[0] = 5 },
	}
	for what, change := range changes {
		w := watch(t, 10, 1, 2, 3, 4)
		told := w.q.All()
		for range 3 {
			change(w.q)
		}
		if !slices.Equal(told, []int{1, 2, 3, 4}) {
			t.Errorf("%s changed what was told to %v", what, told)
		}
		there := w.q.All()
		for i := range told {
			told[i] = -1
		}
		_ = append(told, -1)
		if !slices.Equal(w.q.All(), there) {
			t.Errorf("%s: a caller changed the queue to %v", what, w.q.All())
		}
	}
}

// R6: queues side by side know nothing of each other, and the same calls tell the same.
func TestSideBySide(t *testing.T) {
	a, b, c := watch(t, 3), watch(t, 3), watch(t, 4, 1, 2, 3, 4)
	for _, n := range []int{1, 2, 1, 3, 4, 0, -1} {
		if e, f := a.push(n), b.push(n); e != f {
			t.Errorf("Push(%d): %v and %v", n, e, f)
		}
		a.rotate()
		b.rotate()
		c.look()
	}
	for range 4 {
		n, e := a.pop()
		if m, f := b.pop(); m != n || f != e {
			t.Errorf("Pop: %d, %v and %d, %v", n, e, m, f)
		}
		c.look()
	}
}

// R6: of nil, and of a queue that New did not make, which is as nil: ErrState, false, 0, none; and it stays so.
func TestNil(t *testing.T) {
	var none *queue.Queue
	for _, q := range []*queue.Queue{none, {}, new(queue.Queue)} {
		for range 3 {
			for _, n := range []int{0, 1, -1, 1 << 40, least, greatest} {
				wants(t, "Push of nil", q.Push(n), api.ErrState)
				wants(t, "Remove of nil", q.Remove(n), api.ErrState)
				if q.Has(n) {
					t.Errorf("nil has %d", n)
				}
			}
			if n, e := q.Pop(); n != 0 || e != api.ErrState {
				t.Errorf("Pop of nil: %d, %v", n, e)
			}
			if n, e := q.Front(); n != 0 || e != api.ErrState {
				t.Errorf("Front of nil: %d, %v", n, e)
			}
			q.Rotate()
			if q.Len() != 0 || len(q.All()) != 0 {
				t.Errorf("of nil: %d, %v", q.Len(), q.All())
			}
		}
	}
}
