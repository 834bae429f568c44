package wheel

import (
	"math"
	"testing"

	"tramway/api"
)

// call is one of a wheel's calls, with its arguments.
type call struct {
	kind                byte // a, e, c, t
	first, period, till uint64
	number, what        int
}

// call is some call: a wrong span or a number that is not there now and then.
func (d *dice) call(given int) call {
	x := call{first: d.span(), period: d.span(), number: 1 + d.below(given+1), what: d.below(100) - 50}
	if d.once(20) {
		x.first = []uint64{0, 1<<32 + 1, math.MaxUint64}[d.below(3)]
	}
	if d.once(20) {
		x.period = []uint64{1<<32 + 1, math.MaxUint64}[d.below(2)]
	}
	switch d.below(10) {
	case 0, 1, 2:
		x.kind = 'a'
	case 3, 4:
		x.kind = 'e'
	case 5:
		x.kind, x.number = 'c', x.number+d.below(3)-1
	default:
		x.kind, x.till = 't', d.span()*uint64(min(1, d.below(9)))
		if !d.once(8) {
			x.till = min(x.till, 9000)
		}
	}
	return x
}

// answer is what a call answers, whichever it is.
type answer struct {
	number int
	err    api.Errno
	was    bool
	told   []int
}

func (x call) on(w *Wheel) (a answer) {
	switch x.kind {
	case 'a':
		a.number, a.err = w.Add(x.first, x.what)
	case 'e':
		a.number, a.err = w.Every(x.first, x.period, x.what)
	case 'c':
		a.was = w.Cancel(x.number)
	case 't':
		a.told = w.Tick(x.till)
	}
	return a
}

func (x call) onCalendar(c *calendar) (a answer) {
	switch x.kind {
	case 'a':
		a.number, a.err = c.add(mark{first: x.first, what: x.what})
	case 'e':
		a.number, a.err = c.add(mark{first: x.first, period: x.period, what: x.what})
	case 'c':
		a.was = c.cancel(x.number)
	case 't':
		a.told = c.tick(x.till)
	}
	return a
}

func wantAnswer(t *testing.T, x call, got, want answer) {
	t.Helper()
	if got.number != want.number || got.err != want.err || got.was != want.was {
		t.Fatalf("%c %v: %v, want %v", x.kind, x, got, want)
	}
	wantTold(t, x.till, got.told, want.told)
}

// P6.1 to P6.3, P6.5 to P6.7: runs of all calls on wheels of all sizes, held against a calendar.
func TestRunsAsTheCalendar(t *testing.T) {
	r := dice(61)
	for range 30 {
		var c calendar
		var wheels []*Wheel
		for _, slots := range append([]int{1 + r.below(4096), 1 + r.below(9)}, sizes...) {
			wheels = append(wheels, made(t, slots))
		}
		for range 60 {
			x := r.call(len(c.marks))
			want := x.onCalendar(&c)
			for _, w := range wheels {
				wantAnswer(t, x, x.on(w), want)
			}
		}
		for _, w := range wheels {
			wantSame(t, w, &c)
		}
	}
}

// P6.2: what Left, Next, Now and Len tell behind each call.
func TestLooksAsTheCalendar(t *testing.T) {
	r := dice(62)
	for range 100 {
		var c calendar
		w := made(t, sizes[r.below(len(sizes))])
		for range 60 {
			x := r.call(len(c.marks))
			x.till = min(x.till, 5000)
			wantAnswer(t, x, x.on(w), x.onCalendar(&c))
			wantSame(t, w, &c)
		}
	}
}

// P6.1: full wheels, from which some are cancelled and some run out, and into which more are put than there is room.
func TestFullAsTheCalendar(t *testing.T) {
	r := dice(63)
	for _, slots := range sizes {
		var c calendar
		w := made(t, slots)
		for range 1200 {
			x := r.call(len(c.marks))
			if r.once(2) {
				x.kind = 'a'
			}
			x.first, x.period, x.till = x.first+100, x.period+1000, min(x.till, 2)
			wantAnswer(t, x, x.on(w), x.onCalendar(&c))
		}
		if len(c.marks) < 500 {
			t.Fatalf("only %d timers", len(c.marks))
		}
		for w.Len() < 1024 {
			x := call{kind: 'e', first: r.span(), period: 1 << 20, what: r.below(9)}
			wantAnswer(t, x, x.on(w), x.onCalendar(&c))
		}
		for _, x := range []call{{kind: 'a', first: 1}, {kind: 'c', number: 1}, {kind: 't', till: 9}, {kind: 't', till: 1 << 20}} {
			wantAnswer(t, x, x.on(w), x.onCalendar(&c))
		}
		wantSame(t, w, &c)
	}
}

// twins are two wheels with the same timers: how many numbers were given.
func twins(t *testing.T, r *dice) (*Wheel, *Wheel, int) {
	t.Helper()
	slots := sizes[r.below(len(sizes))]
	a, b := made(t, slots), made(t, slots)
	n := 1 + r.below(40)
	for i := 1; i <= n; i++ {
		first, period := r.span(), 50+r.span()
		if r.once(3) {
			wantAdd(t, a, first, i, i, api.OK)
			wantAdd(t, b, first, i, i, api.OK)
		} else if period <= 1<<32 {
			wantEvery(t, a, first, period, i, i, api.OK)
			wantEvery(t, b, first, period, i, i, api.OK)
		} else {
			return a, b, i - 1
		}
	}
	return a, b, n
}

// P6.4: ticks in one go and in parts, in two or in many, tell the same and leave the same.
func TestInParts(t *testing.T) {
	r := dice(64)
	for range 200 {
		a, b, n := twins(t, &r)
		all := uint64(r.below(6000))
		part := 1 + r.below(1+int(all))
		if r.once(3) {
			part = 1 + r.below(5)
		}
		if r.once(20) {
			all, part = 1<<20, 1+r.below(1<<20)
		}
		var told []int
		for left := all; left > 0; {
			some := min(left, uint64(1+r.below(part)))
			told = append(told, b.Tick(some)...)
			left -= some
		}
		one := a.Tick(all)
		if len(told) > 1<<16 {
			told = told[:1<<16]
		}
		wantTold(t, all, one, told)
		wantHas(t, a, b.Now(), b.Len())
		next, is := b.Next()
		wantNext(t, a, next, is)
		for i := 1; i <= n; i++ {
			left, is := b.Left(i)
			wantLeft(t, a, i, left, is)
		}
	}
}

// P6.5: each timer is told at just the tick that it was given, beside others, however the ticks are cut; Left and Next say so ahead.
func TestEachInItsTime(t *testing.T) {
	r := dice(65)
	for range 200 {
		w := made(t, sizes[r.below(len(sizes))])
		due := map[int]uint64{}
		for number := 1; number <= 50; number++ {
			after := r.span() % 20000
			if after == 0 {
				after = 1
			}
			wantAdd(t, w, after, number, number, api.OK)
			due[number] = w.Now() + after
			if !r.once(4) {
				continue
			}
			for _, told := range w.Tick(uint64(r.below(3))) {
				delete(due, told)
			}
		}
		for len(due) > 0 {
			before, n := w.Now(), uint64(1+r.below(300))
			if next, is := w.Next(); is && r.once(2) {
				n = next
			}
			for _, number := range w.Tick(n) {
				at, is := due[number]
				if !is || at <= before || at > before+n {
					t.Fatalf("timer %d of tick %d told in %d to %d", number, at, before, before+n)
				}
				delete(due, number)
			}
			for number, at := range due {
				wantLeft(t, w, number, at-w.Now(), true)
			}
		}
		wantHas(t, w, w.Now(), 0)
	}
}

// P6.7: an Every alone runs out as often in n ticks as first, first and period, .. are at most n.
func TestAgainAndAgain(t *testing.T) {
	r := dice(67)
	for range 400 {
		w := made(t, sizes[r.below(len(sizes))])
		first, period, n := r.span(), r.span(), min(r.span(), 1<<20)
		wantEvery(t, w, first, period, 3, 1, api.OK)
		want := 0
		at := first
		for ; at <= n; at += period {
			want++
		}
		if got := len(w.Tick(n)); got != min(want, 1<<16) {
			t.Fatalf("Every(%d, %d) in %d ticks: %d, want %d", first, period, n, got, want)
		}
		wantLeft(t, w, 1, at-n, true)
		wantHas(t, w, n, 1)
	}
}

// P6.3, P6.6: the dearest ticks, on a wheel of one slot: all timers, none of which runs out with another, and 65536 to be told.
func TestDearTicks(t *testing.T) {
	for _, slots := range []int{1, 4096} {
		w := made(t, slots)
		var want []int
		for i := 1; i <= 1024; i++ {
			wantEvery(t, w, uint64(16*i), 1<<14, i, i, api.OK)
			want = append(want, i)
		}
		told := w.Tick(1 << 20)
		for i, what := range told {
			if what != want[i%1024] {
				t.Fatalf("%d at %d", what, i)
			}
		}
		if len(told) != 1<<16 {
			t.Fatalf("%d told", len(told))
		}
		wantHas(t, w, 1<<20, 1024)
	}
}
