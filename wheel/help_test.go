package wheel

import (
	"math"
	"slices"
	"testing"

	"tramway/api"
)

// sizes are the numbers of slots that the tests try.
var sizes = []int{1, 2, 7, 64, 4096}

// dice is a source of numbers that are the same at each run.
type dice uint64

func (d *dice) next() uint64 {
	*d ^= *d << 13
	*d ^= *d >> 7
	*d ^= *d << 17
	return uint64(*d)
}

// below is a number from 0 to n, less 1.
func (d *dice) below(n int) int { return int(d.next() % uint64(n)) }

func (d *dice) once(in int) bool { return d.below(in) == 0 }

// span is some ticks, at least 1 and at most 2^32: mostly few, often near a whole number of turns of a wheel.
func (d *dice) span() uint64 {
	switch d.below(8) {
	case 0:
		turns := uint64(sizes[d.below(len(sizes))] * (1 + d.below(3)))
		return max(1, turns-1+uint64(d.below(3)))
	case 1:
		return 1 + uint64(d.below(1<<21))
	case 2:
		return 1 + d.next()%(1<<32)
	case 3:
		return 1
	}
	return 1 + uint64(d.below(40))
}

// mark is a timer of a calendar: the tick at which it was given, and what it was given.
type mark struct {
	from, first, period uint64
	what                int
	cancelled           bool
}

// calendar is a wheel written otherwise: it has no slots, and takes nothing away: each question is reckoned from what the timers were given at first.
type calendar struct {
	now   uint64
	marks []mark
}

// times are how often a timer runs out up to a tick.
func (m mark) times(till uint64) uint64 {
	switch {
	case till < m.from+m.first:
		return 0
	case m.period == 0:
		return 1
	}
	return (till-m.from-m.first)/m.period + 1
}

// next is the tick at which a timer runs out next behind another one, and whether it does.
func (m mark) next(behind uint64) (uint64, bool) {
	n := m.times(behind)
	if m.cancelled || m.period == 0 && n == 1 {
		return 0, false
	}
	return m.from + m.first + n*m.period, true
}

func (c *calendar) left(number int) (uint64, bool) {
	if number < 1 || number > len(c.marks) {
		return 0, false
	}
	at, is := c.marks[number-1].next(c.now)
	if !is {
		return 0, false
	}
	return at - c.now, true
}

func (c *calendar) len() int {
	n := 0
	for i := range c.marks {
		if _, is := c.left(i + 1); is {
			n++
		}
	}
	return n
}

func (c *calendar) next() (uint64, bool) {
	least, any := uint64(math.MaxUint64), false
	for i := range c.marks {
		if left, is := c.left(i + 1); is {
			least, any = min(least, left), true
		}
	}
	if !any {
		return 0, false
	}
	return least, true
}

func (c *calendar) add(m mark) (int, api.Errno) {
	switch {
	case m.first < 1 || m.first > 1<<32 || m.period > 1<<32:
		return 0, api.ErrArg
	case c.len() >= 1024:
		return 0, api.ErrLong
	}
	m.from = c.now
	c.marks = append(c.marks, m)
	return len(c.marks), api.OK
}

func (c *calendar) cancel(number int) bool {
	_, is := c.left(number)
	if is {
		c.marks[number-1].cancelled = true
	}
	return is
}

// event is a timer that runs out at a tick.
type event struct {
	at     uint64
	number int
}

// tick gathers for each timer alone when it runs out, and puts all that in order.
func (c *calendar) tick(n uint64) []int {
	end := c.now + min(n, 1<<20)
	var l []event
	for i, m := range c.marks {
		at, is := m.next(c.now)
		for k := 0; is && at <= end && k < 1<<16; k++ {
			l = append(l, event{at, i + 1})
			at, is = m.next(at)
		}
	}
	slices.SortFunc(l, func(a, b event) int {
		if a.at != b.at {
			return int(int64(a.at - b.at))
		}
		return a.number - b.number
	})
	c.now = end
	var told []int
	for _, e := range l[:min(len(l), 1<<16)] {
		told = append(told, c.marks[e.number-1].what)
	}
	return told
}

// wantSame looks whether a wheel is as its calendar says, without changing it.
func wantSame(t *testing.T, w *Wheel, c *calendar) {
	t.Helper()
	n, is := c.next()
	wantNext(t, w, n, is)
	wantHas(t, w, c.now, c.len())
	for number := -1; number <= len(c.marks)+1; number++ {
		n, is := c.left(number)
		wantLeft(t, w, number, n, is)
	}
}

// made is a wheel that must be made.
func made(t *testing.T, slots int) *Wheel {
	t.Helper()
	w, err := New(slots)
	if w == nil || err != api.OK {
		t.Fatalf("New(%d): %v %d", slots, w, err)
	}
	return w
}

// each runs a test on wheels of several numbers of slots.
func each(t *testing.T, test func(t *testing.T, w *Wheel)) {
	t.Helper()
	for _, slots := range sizes {
		test(t, made(t, slots))
		if t.Failed() {
			t.Fatalf("on a wheel of %d slots", slots)
		}
	}
}

func wantAdd(t *testing.T, w *Wheel, after uint64, what, number int, want api.Errno) {
	t.Helper()
	if n, err := w.Add(after, what); n != number || err != want {
		t.Fatalf("Add(%d, %d): %d %d, want %d %d", after, what, n, err, number, want)
	}
}

func wantEvery(t *testing.T, w *Wheel, first, period uint64, what, number int, want api.Errno) {
	t.Helper()
	if n, err := w.Every(first, period, what); n != number || err != want {
		t.Fatalf("Every(%d, %d, %d): %d %d, want %d %d", first, period, what, n, err, number, want)
	}
}

func wantCancel(t *testing.T, w *Wheel, number int, want bool) {
	t.Helper()
	if is := w.Cancel(number); is != want {
		t.Fatalf("Cancel(%d): %v, want %v", number, is, want)
	}
}

func wantLeft(t *testing.T, w *Wheel, number int, want uint64, wanted bool) {
	t.Helper()
	if n, is := w.Left(number); n != want || is != wanted {
		t.Fatalf("Left(%d): %d %v, want %d %v", number, n, is, want, wanted)
	}
}

func wantNext(t *testing.T, w *Wheel, want uint64, wanted bool) {
	t.Helper()
	if n, is := w.Next(); n != want || is != wanted {
		t.Fatalf("Next: %d %v, want %d %v", n, is, want, wanted)
	}
}

// wantHas looks how many ticks went by, and how many timers there are.
func wantHas(t *testing.T, w *Wheel, now uint64, n int) {
	t.Helper()
	if w.Now() != now || w.Len() != n {
		t.Fatalf("Now, Len: %d, %d, want %d, %d", w.Now(), w.Len(), now, n)
	}
}

func wantTick(t *testing.T, w *Wheel, n uint64, want ...int) {
	t.Helper()
	wantTold(t, n, w.Tick(n), want)
}

func wantTold(t *testing.T, n uint64, told, want []int) {
	t.Helper()
	if slices.Equal(told, want) {
		return
	}
	if len(told)+len(want) > 200 {
		t.Fatalf("Tick(%d): %d told, want %d, or others", n, len(told), len(want))
	}
	t.Fatalf("Tick(%d): %v, want %v", n, told, want)
}
