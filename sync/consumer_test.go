package sync

import (
	"math"
	"testing"
)

// P14.2: what a consumer is made of, and what not.
func TestNewConsumer(t *testing.T) {
	for _, overflow := range overflows() {
		for _, window := range []uint64{0, 1, 2, far - 1, far} {
			postOf(t, overflow, window)
		}
		for _, window := range []uint64{far + 1, far + 2, 1 << 33, 1 << 63, end} {
			if c, err := NewConsumer(overflow, window); c != nil || err != errArg {
				t.Fatalf("NewConsumer(%d, %d): %v %d", overflow, window, c, err)
			}
		}
	}
	for _, overflow := range badOverflows {
		for _, window := range []uint64{0, 1, far, far + 1} {
			if c, err := NewConsumer(overflow, window); c != nil || err != errArg {
				t.Fatalf("NewConsumer(%d, %d): %v %d", overflow, window, c, err)
			}
		}
	}
}

// P14.2: each counter of each overflow as the first one, those that are none, and each one behind another.
func TestTake(t *testing.T) {
	for _, overflow := range overflows() {
		for _, counter := range []int{math.MinInt, -1, overflow + 1, overflow + 2, overflow + 1<<32, math.MaxInt} {
			postOf(t, overflow, 0).wantTake(counter, errForm)
		}
		for _, counter := range ring(overflow) {
			postOf(t, overflow, 0).wantTake(counter, ok)
		}
	}
	for _, overflow := range []int{0, 2, 3, 4, 239, 240} {
		for _, a := range ring(overflow) {
			for _, b := range ring(overflow) {
				p := postOf(t, overflow, 5)
				p.wantTake(a, ok)
				p.take(b)
				p.take(a)
			}
		}
	}
	postOf(t, 0, 0).wantTake(1, errForm)
	postOf(t, 2, 0).wantTake(0, errForm)
}

// P14.2: one that is out of turn counts, is wrong, and those behind it are held against it.
func TestOutOfTurn(t *testing.T) {
	p := postOf(t, 5, 3)
	p.wantTake(4, ok)
	p.wantTake(5, ok)
	p.wantTake(1, ok)
	p.wantHas(true, 3, 0)
	p.wantTake(3, errState)
	p.wantHas(true, 4, 1)
	p.wantTake(4, ok)
	p.wantTake(4, errState)
	p.wantTake(5, ok)
	p.wantTake(4, errState)
	p.wantTake(1, errState)
	p.wantHas(true, 9, 4)
	two := postOf(t, 2, 0)
	two.wantTake(2, ok)
	two.wantTake(2, errState)
	two.wantTake(1, ok)
	two.wantTake(2, ok)
}

// P14.2: with overflow 0 none is wrong.
func TestNoCounter(t *testing.T) {
	p := postOf(t, 0, 2)
	for range 300 {
		p.wantTake(0, ok)
		p.wantTake(1, errForm)
	}
	p.wantHas(true, 300, 0)
}

// P14.2: what has not the form changes nothing: not the window, not the counter that comes next, not what is the first one.
func TestFormChangesNothing(t *testing.T) {
	p := postOf(t, 3, 4)
	p.wantTake(0, errForm)
	p.wantTake(4, errForm)
	p.wantHas(false, 0, 0)
	p.wantTake(3, ok)
	p.wantOpen(3, true)
	p.wantTake(0, errForm)
	p.wantTake(4, errForm)
	p.wantOpen(0, true)
	p.wantOpen(1, false)
	p.wantTake(-1, errForm)
	p.wantTake(4, errForm)
	p.wantHas(false, 1, 0)
	p.wantTake(1, ok)
	p.wantHas(true, 2, 0)
}

// P14.5: a window is open just for its ticks behind each SYNC, and again behind the next one, in turn or not.
func TestWindow(t *testing.T) {
	for _, window := range []uint64{1, 2, 3, 7, 1000, far - 1, far} {
		p := postOf(t, 240, window)
		p.wantOpen(0, false)
		p.wantOpen(window, false)
		p.wantOpen(1, false)
		for _, counter := range []int{1, 2, 5, 5} {
			p.take(counter)
			p.wantOpen(0, true)
			p.wantOpen(window-1, true)
			p.wantOpen(0, true)
			p.wantOpen(1, false)
			p.wantOpen(0, false)
			p.wantOpen(window, false)
		}
		p.take(1)
		p.wantOpen(window-1, true)
		p.take(2)
		p.wantOpen(window-1, true)
		p.wantOpen(1, false)
	}
}

// P14.5: tick by tick it is open just as long as at once.
func TestWindowTickByTick(t *testing.T) {
	p := postOf(t, 0, 9)
	for range 3 {
		p.wantTake(0, ok)
		for i := range 20 {
			p.wantOpen(0, i < 9)
			p.tick(1)
		}
	}
}

// P14.2: a window 0 is open once a SYNC came, whatever time goes by.
func TestWindowOfNothing(t *testing.T) {
	p := postOf(t, 4, 0)
	p.wantOpen(0, false)
	p.wantOpen(end, false)
	p.wantTake(5, errForm)
	p.wantOpen(0, false)
	p.wantTake(2, ok)
	p.wantOpen(0, true)
	p.wantOpen(1, true)
	p.wantOpen(end, true)
	p.wantOpen(end, true)
	p.wantTake(2, errState)
	p.wantOpen(5, true)
}

// P14.2: sums of ticks stop at 2^64 - 1: they don't begin again at 0.
func TestSumsStop(t *testing.T) {
	for _, a := range []uint64{0, 1, 5, far, 1 << 63, end - 5, end - 1, end} {
		for _, b := range []uint64{0, 1, 2, 6, far, 1 << 63, end - 1, end} {
			p := postOf(t, 2, 5)
			p.wantTake(1, ok)
			p.tick(a)
			p.tick(b)
			p.tick(1)
			p.tick(b)
			p.tick(a)
			p.wantTake(2, ok)
			p.wantOpen(4, true)
			p.wantOpen(end, false)
		}
	}
	p := postOf(t, 2, 5)
	p.wantTake(1, ok)
	p.wantOpen(end, false)
	p.wantOpen(1, false)
	p.wantOpen(2, false)
}

// The rule on objects: two consumers know nothing of one another.
func TestTwoConsumers(t *testing.T) {
	a, b := postOf(t, 3, 4), postOf(t, 3, 4)
	a.wantTake(1, ok)
	a.wantTake(1, errState)
	b.wantHas(false, 0, 0)
	b.wantTake(3, ok)
	a.wantOpen(4, false)
	b.wantHas(true, 1, 0)
	b.wantTake(1, ok)
	a.wantHas(false, 2, 1)
}

// The rule on ends: a consumer that NewConsumer did not make ends, too.
func TestZeroConsumer(t *testing.T) {
	var c Consumer
	for _, counter := range []int{0, 1, -1, math.MaxInt, math.MinInt} {
		c.Take(counter)
		c.Tick(end)
		c.Open()
		c.Cycle()
		c.Wrong()
	}
}
