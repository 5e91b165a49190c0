package window

import (
	"testing"

	"baler/api"
)

// 28.1: at the last tick it stays, and so does its window: nothing that was charged is forgotten, even where a window begins with it. No caller can wait so long, so the tick is set here.
func TestLastTick(t *testing.T) {
	for _, span := range []int{1, 2, 3, 1 << 20} {
		m, _ := New(span, []int{5, 5})
		m.at = 1<<40 - 2
		m.Tick()
		if e := m.Charge(0, 2); e != api.OK || m.At() != 1<<40-1 {
			t.Fatalf("at %d: %v", m.At(), e)
		}
		m.Tick()
		// All spans here but 3 divide the last tick.
		left := 5
		if span == 3 {
			left = 3
		}
		for range 3 {
			if m.At() != 1<<40 || m.Begins() != (span != 3) || m.Left(0) != left || m.Left(1) != 5 || m.Total(0) != 2 {
				t.Fatalf("the span %d, at %d: %v, %d left, %d in all", span, m.At(), m.Begins(), m.Left(0), m.Total(0))
			}
			m.Tick()
		}
		if e := m.Charge(1, 5); e != api.OK {
			t.Fatal(e)
		}
		m.Tick()
		if m.At() != 1<<40 || m.Left(1) != 0 || m.Charge(1, 1) != api.ErrQuota {
			t.Errorf("the span %d, behind the last tick: %d left", span, m.Left(1))
		}
	}
}
