package wheel

import (
	"math"
	"testing"

	"tramway/api"
)

// far is the longest that a timer may be given.
const far = 1 << 32

// P6.1: from 1 to 4096 slots, and a wheel without timers at the tick 0.
func TestNewSlots(t *testing.T) {
	for _, n := range []int{math.MinInt, -4096, -1, 0, 4097, 4098, 1 << 20, math.MaxInt} {
		if w, err := New(n); w != nil || err != api.ErrArg {
			t.Errorf("New(%d): %v %d", n, w, err)
		}
	}
	for _, n := range []int{1, 2, 3, 4095, 4096} {
		w := made(t, n)
		wantHas(t, w, 0, 0)
		wantNext(t, w, 0, false)
		wantTick(t, w, 5)
		wantHas(t, w, 5, 0)
	}
}

// The chapter's example.
func TestExample(t *testing.T) {
	each(t, func(t *testing.T, w *Wheel) {
		wantAdd(t, w, 3, 7, 1, api.OK)
		wantEvery(t, w, 1, 2, 5, 2, api.OK)
		wantTick(t, w, 4, 5, 7, 5)
	})
	each(t, func(t *testing.T, w *Wheel) {
		wantAdd(t, w, 3, 7, 1, api.OK)
		wantEvery(t, w, 1, 2, 5, 2, api.OK)
		wantTick(t, w, 1, 5)
		wantTick(t, w, 1)
		wantTick(t, w, 1, 7, 5)
		wantTick(t, w, 1)
	})
}

// P6.1: after is from 1 to 2^32; what is refused has no number and changes nothing.
func TestAddRange(t *testing.T) {
	each(t, func(t *testing.T, w *Wheel) {
		for _, after := range []uint64{0, far + 1, far + 2, 1 << 33, 1 << 63, math.MaxUint64} {
			wantAdd(t, w, after, 1, 0, api.ErrArg)
			wantHas(t, w, 0, 0)
			wantNext(t, w, 0, false)
		}
		for i, after := range []uint64{1, 2, far - 1, far} {
			wantAdd(t, w, after, 1, i+1, api.OK)
			wantAdd(t, w, 0, 1, 0, api.ErrArg)
			wantLeft(t, w, i+1, after, true)
			wantHas(t, w, 0, i+1)
		}
	})
}

// P6.1: first and period are from 1 to 2^32 each.
func TestEveryRange(t *testing.T) {
	spans := []uint64{0, 1, 2, far - 1, far, far + 1, 1 << 40, math.MaxUint64}
	each(t, func(t *testing.T, w *Wheel) {
		taken := 0
		for _, first := range spans {
			for _, period := range spans {
				if first < 1 || first > far || period < 1 || period > far {
					wantEvery(t, w, first, period, 1, 0, api.ErrArg)
					continue
				}
				taken++
				wantEvery(t, w, first, period, 1, taken, api.OK)
				wantLeft(t, w, taken, first, true)
			}
		}
		wantHas(t, w, 0, 16)
	})
}

// P6.1: a number for each that was taken; they go on counting behind timers that are gone, and of what was refused none is lost.
func TestNumbers(t *testing.T) {
	each(t, func(t *testing.T, w *Wheel) {
		wantAdd(t, w, 1, 10, 1, api.OK)
		wantAdd(t, w, 0, 10, 0, api.ErrArg)
		wantEvery(t, w, 1, 0, 10, 0, api.ErrArg)
		wantEvery(t, w, 2, 2, 20, 2, api.OK)
		wantCancel(t, w, 1, true)
		wantAdd(t, w, 1, 30, 3, api.OK)
		wantTick(t, w, 1, 30)
		wantAdd(t, w, 1, 40, 4, api.OK)
		wantCancel(t, w, 4, true)
		wantCancel(t, w, 2, true)
		wantHas(t, w, 1, 0)
		wantAdd(t, w, 1, 50, 5, api.OK)
		wantEvery(t, w, 1, 1, 60, 6, api.OK)
		wantTick(t, w, 1, 50, 60)
	})
}

// full fills a wheel with 1024 timers of 100 ticks, but for the first, which is handed in.
func full(t *testing.T, w *Wheel, first func()) {
	t.Helper()
	first()
	for i := 2; i <= 1024; i++ {
		wantAdd(t, w, 100, i, i, api.OK)
	}
	wantHas(t, w, 0, 1024)
}

// P6.1: 1024 timers, and not one more; a wrong span is told ahead of that.
func TestMostTimers(t *testing.T) {
	each(t, func(t *testing.T, w *Wheel) {
		full(t, w, func() { wantEvery(t, w, 1, 1, 1, 1, api.OK) })
		wantAdd(t, w, 1, 9, 0, api.ErrLong)
		wantEvery(t, w, 1, 1, 9, 0, api.ErrLong)
		wantAdd(t, w, 0, 9, 0, api.ErrArg)
		wantAdd(t, w, far+1, 9, 0, api.ErrArg)
		wantEvery(t, w, 0, 1, 9, 0, api.ErrArg)
		wantEvery(t, w, 1, far+1, 9, 0, api.ErrArg)
		wantHas(t, w, 0, 1024)
		wantCancel(t, w, 500, true)
		wantCancel(t, w, 500, false)
		wantEvery(t, w, 3, 7, 9, 1025, api.OK)
		wantAdd(t, w, 1, 9, 0, api.ErrLong)
		wantHas(t, w, 0, 1024)
	})
}

// P6.1, P6.3: one that ran out makes room; one that runs out again does not.
func TestRoomAgain(t *testing.T) {
	each(t, func(t *testing.T, w *Wheel) {
		full(t, w, func() { wantAdd(t, w, 5, 77, 1, api.OK) })
		wantTick(t, w, 4)
		wantAdd(t, w, 1, 9, 0, api.ErrLong)
		wantTick(t, w, 1, 77)
		wantAdd(t, w, 200, 9, 1025, api.OK)
		wantAdd(t, w, 1, 9, 0, api.ErrLong)
	})
	each(t, func(t *testing.T, w *Wheel) {
		full(t, w, func() { wantEvery(t, w, 5, 5, 77, 1, api.OK) })
		wantTick(t, w, 5, 77)
		wantAdd(t, w, 1, 9, 0, api.ErrLong)
		wantTick(t, w, 94, func() (l []int) {
			for range 18 {
				l = append(l, 77)
			}
			return l
		}()...)
		wantAdd(t, w, 1, 9, 0, api.ErrLong)
		w.Tick(1)
		wantHas(t, w, 100, 1)
		for i := 1025; i < 2048; i++ {
			wantAdd(t, w, 1, 9, i, api.OK)
		}
		wantAdd(t, w, 1, 9, 0, api.ErrLong)
	})
}

// P6.2: Cancel and Left of what was never given.
func TestNeverGiven(t *testing.T) {
	each(t, func(t *testing.T, w *Wheel) {
		for given := range 3 {
			for _, number := range []int{math.MinInt, -1, 0, given + 1, given + 2, math.MaxInt} {
				wantCancel(t, w, number, false)
				wantLeft(t, w, number, 0, false)
			}
			wantHas(t, w, 0, given)
			wantAdd(t, w, 5, 1, given+1, api.OK)
		}
	})
}

// P6.2: what was cancelled is there no more, and tells nothing; the others stay.
func TestCancel(t *testing.T) {
	each(t, func(t *testing.T, w *Wheel) {
		wantAdd(t, w, 3, 10, 1, api.OK)
		wantAdd(t, w, 3, 20, 2, api.OK)
		wantEvery(t, w, 3, 3, 30, 3, api.OK)
		wantEvery(t, w, 3, 3, 40, 4, api.OK)
		wantCancel(t, w, 1, true)
		wantCancel(t, w, 1, false)
		wantLeft(t, w, 1, 0, false)
		wantHas(t, w, 0, 3)
		wantTick(t, w, 3, 20, 30, 40)
		wantCancel(t, w, 2, false)
		wantLeft(t, w, 2, 0, false)
		wantTick(t, w, 1)
		wantCancel(t, w, 3, true)
		wantLeft(t, w, 3, 0, false)
		wantCancel(t, w, 3, false)
		wantHas(t, w, 4, 1)
		wantTick(t, w, 5, 40, 40)
		wantCancel(t, w, 4, true)
		wantTick(t, w, 100)
		wantHas(t, w, 109, 0)
	})
}

// P6.2: Left goes down tick by tick; of an Every it begins anew between two of its times.
func TestLeft(t *testing.T) {
	each(t, func(t *testing.T, w *Wheel) {
		wantAdd(t, w, 10, 1, 1, api.OK)
		wantEvery(t, w, 2, 5, 2, 2, api.OK)
		for now := range uint64(20) {
			if now < 10 {
				wantLeft(t, w, 1, 10-now, true)
			} else {
				wantLeft(t, w, 1, 0, false)
			}
			if now < 2 {
				wantLeft(t, w, 2, 2-now, true)
			} else {
				wantLeft(t, w, 2, 5-(now-2)%5, true)
			}
			w.Tick(1)
		}
	})
}

// P6.2: Next is the soonest, whether it runs out once or again; none, if there is none.
func TestNext(t *testing.T) {
	each(t, func(t *testing.T, w *Wheel) {
		wantNext(t, w, 0, false)
		wantAdd(t, w, far, 1, 1, api.OK)
		wantNext(t, w, far, true)
		wantAdd(t, w, 50, 2, 2, api.OK)
		wantNext(t, w, 50, true)
		wantAdd(t, w, 60, 3, 3, api.OK)
		wantNext(t, w, 50, true)
		wantEvery(t, w, 3, 20, 4, 4, api.OK)
		wantNext(t, w, 3, true)
		wantTick(t, w, 2)
		wantNext(t, w, 1, true)
		wantTick(t, w, 1, 4)
		wantNext(t, w, 20, true)
		wantCancel(t, w, 4, true)
		wantNext(t, w, 47, true)
		wantTick(t, w, 50, 2)
		wantNext(t, w, 7, true)
		wantCancel(t, w, 3, true)
		wantNext(t, w, far-53, true)
		wantCancel(t, w, 1, true)
		wantNext(t, w, 0, false)
	})
}

// P6.3: 0 ticks are none; more than 2^20 are 2^20.
func TestTickRange(t *testing.T) {
	const most = 1 << 20
	each(t, func(t *testing.T, w *Wheel) {
		wantAdd(t, w, 1, 1, 1, api.OK)
		wantTick(t, w, 0)
		wantHas(t, w, 0, 1)
		wantTick(t, w, 1, 1)
		wantHas(t, w, 1, 0)
		now := uint64(1)
		for i, n := range []uint64{most - 1, most, most + 1, 1 << 21, 1 << 32, 1 << 63, math.MaxUint64} {
			wantAdd(t, w, min(n, most), i, 2*i+2, api.OK)
			wantAdd(t, w, min(n, most)+1, -i, 2*i+3, api.OK)
			wantTick(t, w, n, i)
			now += min(n, most)
			wantHas(t, w, now, 1)
			wantTick(t, w, 1, -i)
			now++
			wantHas(t, w, now, 0)
		}
	})
}

// P6.3: what runs out at one tick is told by the timers' numbers, whatever they tell and however long they ran.
func TestOneTick(t *testing.T) {
	each(t, func(t *testing.T, w *Wheel) {
		wantAdd(t, w, 12, 9, 1, api.OK)
		wantEvery(t, w, 12, 1, -4, 2, api.OK)
		wantEvery(t, w, 2, 5, 7, 3, api.OK)
		wantTick(t, w, 4, 7)
		wantAdd(t, w, 8, 0, 4, api.OK)
		wantAdd(t, w, 7, 8, 5, api.OK)
		wantTick(t, w, 7, 7, 8)
		wantAdd(t, w, 1, math.MinInt, 6, api.OK)
		wantEvery(t, w, 1, 9, math.MaxInt, 7, api.OK)
		wantAdd(t, w, 1, 9, 8, api.OK)
		wantTick(t, w, 1, 9, -4, 7, 0, math.MinInt, math.MaxInt, 9)
		wantHas(t, w, 12, 3)
	})
}

// P6.3: numbers of more digits are no less; so with all timers at one tick.
func TestManyAtOneTick(t *testing.T) {
	each(t, func(t *testing.T, w *Wheel) {
		var want []int
		for i := 1; i <= 1024; i++ {
			wantAdd(t, w, 4096, 5000-i, i, api.OK)
			want = append(want, 5000-i)
		}
		wantTick(t, w, 4095)
		wantTick(t, w, 1, want...)
		wantHas(t, w, 4096, 0)
	})
}

// repeat fills a wheel with timers that run out at each tick: what n ticks tell.
func repeat(t *testing.T, w *Wheel, timers, n int) []int {
	t.Helper()
	for i := 1; i <= timers; i++ {
		wantEvery(t, w, 1, 1, i, i, api.OK)
	}
	var l []int
	for range n {
		for i := 1; i <= timers; i++ {
			l = append(l, i)
		}
	}
	return l
}

// P6.3: just 65536 are told; with one tick more nothing more is told, and the tick goes by.
func TestMostTold(t *testing.T) {
	each(t, func(t *testing.T, w *Wheel) {
		want := repeat(t, w, 1024, 64)
		wantTick(t, w, 64, want...)
		wantTick(t, w, 65, want...)
		wantHas(t, w, 129, 1024)
		wantTick(t, w, math.MaxUint64, want...)
		wantHas(t, w, 129+1<<20, 1024)
		wantTick(t, w, 1, want[:1024]...)
	})
	each(t, func(t *testing.T, w *Wheel) {
		want := repeat(t, w, 1, 1<<16)
		wantTick(t, w, 1<<16-1, want[1:]...)
		wantTick(t, w, 1<<16, want...)
		wantTick(t, w, 1<<16+1, want...)
		wantHas(t, w, 3<<16, 1)
	})
}

// P6.3: 65536 end in the midst of a tick; the timers that are not told any more have run out nevertheless.
func TestMostToldInATick(t *testing.T) {
	each(t, func(t *testing.T, w *Wheel) {
		want := repeat(t, w, 1000, 66)
		wantAdd(t, w, 65, 7, 1001, api.OK)
		wantAdd(t, w, 66, 8, 1002, api.OK)
		wantAdd(t, w, 67, 9, 1003, api.OK)
		wantAdd(t, w, 71, 10, 1004, api.OK)
		wantEvery(t, w, 66, 100, 11, 1005, api.OK)
		wantEvery(t, w, 67, 2, 12, 1006, api.OK)
		wantTick(t, w, 70, append(append(append([]int{}, want[:65000]...), 7), want[:535]...)...)
		wantHas(t, w, 70, 1003)
		wantLeft(t, w, 1001, 0, false)
		wantLeft(t, w, 1002, 0, false)
		wantLeft(t, w, 1003, 0, false)
		wantLeft(t, w, 1004, 1, true)
		wantLeft(t, w, 1005, 96, true)
		wantLeft(t, w, 1006, 1, true)
		wantCancel(t, w, 1002, false)
		wantTick(t, w, 1, append(append([]int{}, want[:1000]...), 10, 12)...)
	})
}

// P6.3: behind 65536 in one call, what runs out later is told by the next call in its time.
func TestLeftBehind(t *testing.T) {
	each(t, func(t *testing.T, w *Wheel) {
		repeat(t, w, 1024-4, 0)
		wantAdd(t, w, 1<<20, -1, 1021, api.OK)
		wantAdd(t, w, 1<<20+3, -2, 1022, api.OK)
		wantEvery(t, w, 1<<20+1, 2, -3, 1023, api.OK)
		wantEvery(t, w, 5, 1<<20-2, -4, 1024, api.OK)
		if told := w.Tick(1 << 20); len(told) != 1<<16 {
			t.Fatalf("%d told", len(told))
		}
		for number := 1; number <= 1020; number++ {
			wantLeft(t, w, number, 1, true)
			wantCancel(t, w, number, true)
		}
		wantLeft(t, w, 1021, 0, false)
		wantHas(t, w, 1<<20, 3)
		wantTick(t, w, 2, -3)
		wantTick(t, w, 1, -2, -3, -4)
	})
}

// P6.5: a timer runs out just behind its ticks: around whole turns of each wheel, in one go, with one tick left, and tick by tick.
func TestTurns(t *testing.T) {
	for _, turn := range sizes {
		for _, turns := range []int{1, 2, 3, 10} {
			for after := max(1, turn*turns-1); after <= turn*turns+1; after++ {
				each(t, func(t *testing.T, w *Wheel) { justBehind(t, w, uint64(after)) })
			}
		}
	}
}

// justBehind looks at timers of so many ticks, first from the tick 0 on, then from others.
func justBehind(t *testing.T, w *Wheel, after uint64) {
	t.Helper()
	wantAdd(t, w, after, 5, 1, api.OK)
	wantTick(t, w, after-1)
	wantTick(t, w, 1, 5)
	wantAdd(t, w, after, 6, 2, api.OK)
	wantTick(t, w, after, 6)
	wantTick(t, w, 3)
	wantEvery(t, w, after, after, 7, 3, api.OK)
	wantTick(t, w, after-1)
	wantTick(t, w, 1, 7)
	wantTick(t, w, after-1)
	wantTick(t, w, after, 7)
	wantCancel(t, w, 3, true)
	wantAdd(t, w, after, 8, 4, api.OK)
	for left := after; left > 1; left -= min(left-1, 1+left/7) {
		wantLeft(t, w, 4, left, true)
		wantTick(t, w, min(left-1, 1+left/7))
	}
	wantTick(t, w, 1, 8)
}

// P6.5: a timer of 2^32 ticks, one less, and an Every of that period.
func TestLongest(t *testing.T) {
	each(t, func(t *testing.T, w *Wheel) {
		wantAdd(t, w, far, 1, 1, api.OK)
		wantAdd(t, w, far-1, 2, 2, api.OK)
		wantEvery(t, w, far, far, 3, 3, api.OK)
		wantEvery(t, w, 1, far, 4, 4, api.OK)
		wantTick(t, w, 1, 4)
		for range 4095 {
			wantTick(t, w, 1<<20)
		}
		wantLeft(t, w, 1, 1<<20-1, true)
		wantTick(t, w, 1<<20-3)
		wantTick(t, w, 1, 2)
		wantTick(t, w, 1, 1, 3)
		wantTick(t, w, 1, 4)
		wantHas(t, w, far+1, 2)
		wantLeft(t, w, 3, far-1, true)
		wantLeft(t, w, 4, far, true)
	})
}

// The rule on objects: two wheels know nothing of one another.
func TestTwoWheels(t *testing.T) {
	a, b := made(t, 7), made(t, 7)
	wantAdd(t, a, 3, 1, 1, api.OK)
	wantEvery(t, a, 1, 1, 2, 2, api.OK)
	wantHas(t, b, 0, 0)
	wantCancel(t, b, 1, false)
	wantAdd(t, b, 2, 3, 1, api.OK)
	wantTick(t, a, 3, 2, 2, 1, 2)
	wantHas(t, b, 0, 1)
	wantTick(t, b, 3, 3)
	wantHas(t, a, 3, 1)
}

// The rule on memory: an answer is the caller's own, its spare room too.
func TestAnswersAreNew(t *testing.T) {
	w := made(t, 4)
	wantEvery(t, w, 1, 1, 5, 1, api.OK)
	first := w.Tick(3)
	second := w.Tick(3)
	for _, l := range [][]int{first, second} {
		for i := range l[:cap(l)] {
			l[:cap(l)][i] = 9
		}
	}
	third := w.Tick(3)
	wantTold(t, 3, third, []int{5, 5, 5})
	wantTold(t, 3, first, []int{9, 9, 9})
	w.Tick(3)
	wantTold(t, 3, third, []int{5, 5, 5})
}

// The rule on what is kept: of timers that are gone nothing stays in a slot.
func TestNothingStays(t *testing.T) {
	each(t, func(t *testing.T, w *Wheel) {
		for i := 1; i <= 300; i++ {
			wantAdd(t, w, uint64(3*i), i, 3*i-2, api.OK)
			wantEvery(t, w, uint64(i), uint64(2*i), i, 3*i-1, api.OK)
			wantEvery(t, w, uint64(i), uint64(2*i), i, 3*i, api.OK)
			wantCancel(t, w, 3*i, true)
		}
		w.Tick(450)
		for i := 1; i <= 300; i++ {
			wantCancel(t, w, 3*i-1, true)
		}
		inSlots := 0
		for _, s := range w.slots {
			inSlots += len(s)
		}
		if inSlots != 150 || len(w.timers) != 150 {
			t.Fatalf("%d in slots, %d in all", inSlots, len(w.timers))
		}
	})
}

// The rule on ends: a wheel that New did not make takes no timer, and does not panic.
func TestZeroWheel(t *testing.T) {
	var w Wheel
	wantAdd(t, &w, 1, 1, 0, api.ErrLong)
	wantEvery(t, &w, 1, 1, 1, 0, api.ErrLong)
	wantCancel(t, &w, 1, false)
	wantLeft(t, &w, 1, 0, false)
	wantNext(t, &w, 0, false)
	wantTick(t, &w, 5)
	wantHas(t, &w, 5, 0)
}
