package sync

import (
	"math"
	"testing"
)

// badOverflows are none that may be.
var badOverflows = []int{math.MinInt, -240, -2, -1, 1, 241, 242, 256, 1 << 32, 1<<32 + 2, math.MaxInt}

// P14.1: what a producer is made of, and what not.
func TestNewProducer(t *testing.T) {
	for _, overflow := range overflows() {
		for _, period := range []uint64{1, 2, far - 1, far} {
			stationOf(t, period, overflow)
		}
		for _, period := range []uint64{0, far + 1, far + 2, 1 << 33, 1 << 63, end} {
			if p, err := NewProducer(period, overflow); p != nil || err != errArg {
				t.Fatalf("NewProducer(%d, %d): %v %d", period, overflow, p, err)
			}
		}
	}
	for _, overflow := range badOverflows {
		for _, period := range []uint64{0, 1, 2, far, far + 1} {
			if p, err := NewProducer(period, overflow); p != nil || err != errArg {
				t.Fatalf("NewProducer(%d, %d): %v %d", period, overflow, p, err)
			}
		}
	}
}

// P14.1: the document's example.
func TestExample(t *testing.T) {
	s := stationOf(t, 3, 2)
	s.start(true)
	s.wantTick(9, 1, 2, 1)
}

// P14.1: one that is not started tells nothing, and its ticks don't count.
func TestNotStarted(t *testing.T) {
	s := stationOf(t, 3, 2)
	s.wantTick(2)
	s.wantTick(most)
	s.wantNext(0, false)
	s.start(false)
	s.wantTick(2)
	s.wantNext(0, false)
	s.start(true)
	s.wantNext(3, true)
	s.wantTick(2)
	s.wantTick(1, 1)
}

// P14.1: the first SYNC is told behind just its period, and each next one.
func TestFirst(t *testing.T) {
	for _, period := range []uint64{1, 2, 3, 10, 240, 1000, most - 1, most} {
		s := stationOf(t, period, 3)
		s.start(true)
		for _, counter := range []int{1, 2, 3, 1} {
			s.wantNext(period, true)
			s.wantTick(period - 1)
			s.wantNext(1, true)
			s.wantTick(0)
			s.wantTick(1, counter)
			s.wantTick(0)
		}
	}
}

// P14.1: counters go from 1 to each overflow, and round; with overflow 0 each is 0.
func TestCounters(t *testing.T) {
	for _, overflow := range overflows() {
		for _, period := range []uint64{1, 7} {
			s := stationOf(t, period, overflow)
			s.start(true)
			for range 2*overflow + 3 {
				s.tick(period)
			}
			s.tick(period * 500)
		}
	}
	s := stationOf(t, 2, 0)
	s.start(true)
	s.wantTick(7, 0, 0, 0)
	s = stationOf(t, 1, 2)
	s.start(true)
	s.wantTick(5, 1, 2, 1, 2, 1)
}

// P14.1: Start(true) of one that is started changes nothing.
func TestStartTwice(t *testing.T) {
	s := stationOf(t, 3, 4)
	s.start(true)
	s.start(true)
	s.wantTick(2)
	s.start(true)
	s.wantNext(1, true)
	s.wantTick(1, 1)
	s.start(true)
	s.wantTick(3, 2)
}

// P14.1: more than 65536 ticks are as 65536.
func TestMostTicks(t *testing.T) {
	for _, n := range []uint64{most - 1, most, most + 1, 2 * most, far, far + 1, 1 << 63, end - 1, end} {
		for _, period := range []uint64{1, 2, 3, 1000, most - 1, most, most + 1, 2 * most} {
			s := stationOf(t, period, 240)
			s.start(true)
			for range 3 {
				s.tick(n)
			}
			s.tick(1)
			s.tick(n)
		}
	}
	s := stationOf(t, most, 2)
	s.start(true)
	s.wantTick(1)
	s.wantTick(end, 1)
	s.wantNext(most-1, true)
}

// P14.1: the longest periods.
func TestLongest(t *testing.T) {
	for _, period := range []uint64{far - 1, far} {
		s := stationOf(t, period, 2)
		s.start(true)
		s.wantNext(period, true)
		for i := range 65535 {
			if l := s.p.Tick(most); len(l) != 0 {
				t.Fatalf("%d told at the %dth", len(l), i)
			}
		}
		s.k.now = 65535 * most
		s.same()
		s.wantTick(most - 2)
		s.wantNext(period+2-far, true)
		s.tick(1)
		s.tick(1)
		s.wantNext(2*period-far, true)
	}
}

// P14.6: what is stopped tells nothing; started again it begins anew, with a whole period and the counter 1.
func TestAnew(t *testing.T) {
	for _, overflow := range []int{0, 2, 3, 240} {
		first := ring(overflow)[0]
		for _, period := range []uint64{1, 2, 5, 100} {
			s := stationOf(t, period, overflow)
			for done := range 4 * period {
				s.start(true)
				s.wantNext(period, true)
				s.tick(done)
				s.start(false)
				s.wantNext(0, false)
				s.wantTick(0)
				s.wantTick(period)
				s.wantTick(most)
				s.start(false)
				s.start(true)
				s.wantNext(period, true)
				s.wantTick(period - 1)
				s.wantTick(1, first)
				s.start(false)
			}
		}
	}
}

// The rule on memory: an answer is the caller's own, its spare room too.
func TestAnswersAreNew(t *testing.T) {
	s := stationOf(t, 1, 3)
	s.start(true)
	first, second := s.tick(5), s.tick(5)
	for _, l := range [][]int{first, second} {
		for i := range l[:cap(l)] {
			l[:cap(l)][i] = 9
		}
	}
	third := s.tick(3)
	wantList(t, third, []int{2, 3, 1})
	s.tick(5)
	wantList(t, first, []int{9, 9, 9, 9, 9})
	wantList(t, third, []int{2, 3, 1})
}

// The rule on objects: two producers know nothing of one another.
func TestTwoProducers(t *testing.T) {
	a, b := stationOf(t, 2, 3), stationOf(t, 2, 3)
	a.start(true)
	a.wantTick(5, 1, 2)
	b.wantNext(0, false)
	b.start(true)
	b.wantTick(3, 1)
	a.start(false)
	b.wantTick(1, 2)
	a.start(true)
	a.wantTick(2, 1)
	b.wantTick(2, 3)
}

// The rule on ends: a producer that NewProducer did not make ends, too.
func TestZeroProducer(t *testing.T) {
	var p Producer
	for _, on := range []bool{false, true, true, false} {
		p.Start(on)
		p.Tick(0)
		p.Tick(end)
		p.Next()
	}
}
