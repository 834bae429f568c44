package sync

import (
	"fmt"
	"testing"
)

// P14.1, P14.4, P14.6: producers of all kinds, call by call against their tellers.
func TestProducerRuns(t *testing.T) {
	r := dice(14)
	for range 300 {
		s := stationOf(t, r.long(), r.overflow())
		for range 60 {
			switch r.below(8) {
			case 0:
				s.start(false)
			case 1, 2:
				s.start(true)
			case 3:
				// Up to just ahead of the next one, to it, and behind it.
				n, _ := s.k.next()
				s.tick(n + uint64(r.below(3)) - 1)
			case 4:
				s.tick(r.long())
			case 5:
				s.tick(s.k.period * uint64(r.below(5)) % 5000)
			default:
				s.tick(uint64(r.below(300)))
			}
		}
	}
}

// P14.2, P14.5: consumers of all kinds, call by call against their listeners.
func TestConsumerRuns(t *testing.T) {
	r := dice(2)
	for range 400 {
		window := r.long()
		if r.once(6) {
			window = 0
		}
		p := postOf(t, r.overflow(), window)
		place := r.below(240)
		for range 80 {
			switch r.below(6) {
			case 0:
				p.tick(r.long())
			case 1:
				p.tick(window + uint64(r.below(3)) - 1)
			case 2:
				p.tick(r.next())
			case 3:
				// One out of turn, or one that is none.
				place = r.below(240)
				p.take(r.below(260) - 10)
			default:
				p.take(p.k.ring[place%len(p.k.ring)])
				place++
			}
		}
	}
}

// P14.3: what a producer tells is taken without a wrong one, of each overflow, whenever the consumer begins to listen.
func TestNoBeatLost(t *testing.T) {
	for _, overflow := range overflows() {
		for _, deaf := range []uint64{0, 1, 2, 239} {
			s := stationOf(t, 3, overflow)
			s.start(true)
			s.tick(3 * deaf)
			p := postOf(t, overflow, 3)
			told := s.tick(3 * 300)
			if len(told) != 300 {
				t.Fatalf("%d told", len(told))
			}
			takeAll(t, p.c, told)
			p.wantHas(true, 300, 0)
		}
	}
}

// takeAll hands counters to a consumer, each of which is to be well.
func takeAll(t *testing.T, c *Consumer, told []int) {
	t.Helper()
	for i, counter := range told {
		if err := c.Take(counter); err != ok {
			t.Fatalf("the %dth, %d: %d", i, counter, err)
		}
	}
}

// P14.3: if some in a row are lost, fewer than overflow less 1, just the next one is wrong, wherever it was.
func TestSomeLost(t *testing.T) {
	for _, overflow := range overflows()[1:] {
		for _, lost := range []int{1, 2, 3, overflow / 2, overflow - 3, overflow - 2} {
			if lost < 1 || lost >= overflow-1 {
				continue
			}
			for _, ahead := range []int{1, 2, overflow - 1, overflow, overflow + 1} {
				t.Run(fmt.Sprint(overflow, lost, ahead), func(t *testing.T) { loseSome(t, overflow, lost, ahead) })
			}
		}
	}
}

// loseSome takes so many SYNCs, loses some, and takes the others.
func loseSome(t *testing.T, overflow, lost, ahead int) {
	s := stationOf(t, 2, overflow)
	s.start(true)
	told := s.tick(2 * uint64(ahead+lost+overflow+3))
	c, _ := NewConsumer(overflow, 2)
	takeAll(t, c, told[:ahead])
	rest := told[ahead+lost:]
	if err := c.Take(rest[0]); err != errState {
		t.Fatalf("the next one, %d: %d", rest[0], err)
	}
	takeAll(t, c, rest[1:])
	if c.Wrong() != 1 || c.Cycle() != uint64(ahead+len(rest)) {
		t.Fatalf("Wrong %d, Cycle %d", c.Wrong(), c.Cycle())
	}
}

// P14.3: a whole turn that is lost is not seen; with no counter nothing is.
func TestTurnLost(t *testing.T) {
	for _, overflow := range []int{2, 3, 240} {
		s := stationOf(t, 1, overflow)
		s.start(true)
		told := s.tick(uint64(2*overflow + 5))
		c, _ := NewConsumer(overflow, 0)
		takeAll(t, c, told[:3])
		takeAll(t, c, told[3+overflow:])
	}
	s := stationOf(t, 1, 0)
	s.start(true)
	told := s.tick(100)
	c, _ := NewConsumer(0, 0)
	takeAll(t, c, told[:10])
	takeAll(t, c, told[57:])
	if c.Wrong() != 0 || c.Cycle() != 53 {
		t.Fatalf("Wrong %d, Cycle %d", c.Wrong(), c.Cycle())
	}
}

// P14.4: in ticks cut in any way as many SYNCs are told as periods end, and the same ones.
func TestInTime(t *testing.T) {
	r := dice(4)
	for range 200 {
		period, overflow := 1+uint64(r.below(50)), r.overflow()
		whole, pieces := stationOf(t, period, overflow), stationOf(t, period, overflow)
		whole.start(true)
		pieces.start(true)
		all := uint64(r.below(5000))
		told := whole.tick(all)
		if uint64(len(told)) != all/period {
			t.Fatalf("%d told in %d ticks of period %d", len(told), all, period)
		}
		var l []int
		for left := all; left > 0; {
			n := min(left, uint64(r.below(200)))
			l = append(l, pieces.tick(n)...)
			left -= n
		}
		wantList(t, l, told, period, overflow, all)
	}
}

// P14.4: Next is true to its word: none is told ahead of it, one at it.
func TestNextIsTrue(t *testing.T) {
	r := dice(7)
	for range 200 {
		s := stationOf(t, 1+uint64(r.below(2000)), r.overflow())
		s.start(true)
		for range 20 {
			s.tick(uint64(r.below(3000)))
			n, _ := s.p.Next()
			if n < 1 || n > s.k.period {
				t.Fatalf("Next %d of period %d", n, s.k.period)
			}
			if early := s.tick(n - 1); len(early) != 0 {
				t.Fatalf("%v told early", early)
			}
			if due := s.tick(1); len(due) != 1 {
				t.Fatalf("%v told when due", due)
			}
		}
	}
}

// P14.5: of a producer and a consumer the window is open for so many ticks of each period.
func TestWindowsOfPeriods(t *testing.T) {
	for period := uint64(1); period <= 6; period++ {
		for window := uint64(1); window <= 8; window++ {
			s := stationOf(t, period, 3)
			s.start(true)
			c, _ := NewConsumer(3, window)
			opened := uint64(0)
			for range 10 * period {
				c.Tick(1)
				takeAll(t, c, s.tick(1))
				if c.Open() {
					opened++
				}
			}
			if want := 9*min(window, period) + 1; opened != want {
				t.Fatalf("period %d, window %d: open at %d ticks, want %d", period, window, opened, want)
			}
		}
	}
}
