package sync

import (
	"math/big"
	"slices"
	"testing"

	"tramway/api"
)

// The errors, by hand.
const (
	ok       api.Errno = 0
	errArg   api.Errno = 1
	errState api.Errno = 6
	errForm  api.Errno = 8
)

const (
	far  = 4294967296 // 2^32
	most = 65536      // ticks of one Tick of a producer
	end  = 1<<64 - 1
)

// ring is the counters in turn, written out.
func ring(overflow int) []int {
	if overflow == 0 {
		return []int{0}
	}
	var l []int
	for c := 1; c <= overflow; c++ {
		l = append(l, c)
	}
	return l
}

// teller is a producer written otherwise: all of it hangs on how many ticks went by since it was started.
type teller struct {
	period uint64
	ring   []int
	on     bool
	now    uint64
}

func (k *teller) start(on bool) {
	if k.on != on {
		k.on, k.now = on, 0
	}
}

func (k *teller) tick(n uint64) []int {
	if !k.on {
		return nil
	}
	if n > most {
		n = most
	}
	var l []int
	for i := k.now / k.period; i < (k.now+n)/k.period; i++ {
		l = append(l, k.ring[i%uint64(len(k.ring))])
	}
	k.now += n
	return l
}

func (k *teller) next() (uint64, bool) {
	if !k.on {
		return 0, false
	}
	return (k.now/k.period+1)*k.period - k.now, true
}

// station is a producer and the teller that it is held against, call by call.
type station struct {
	t *testing.T
	p *Producer
	k teller
}

func stationOf(t *testing.T, period uint64, overflow int) *station {
	t.Helper()
	p, err := NewProducer(period, overflow)
	if p == nil || err != ok {
		t.Fatalf("NewProducer(%d, %d): %v %d", period, overflow, p, err)
	}
	s := &station{t, p, teller{period: period, ring: ring(overflow)}}
	s.same()
	return s
}

// same looks at what Next tells, twice, as it changes nothing.
func (s *station) same() {
	s.t.Helper()
	want, wanted := s.k.next()
	for range 2 {
		if n, is := s.p.Next(); n != want || is != wanted {
			s.t.Fatalf("Next of period %d at %d: %d %v, want %d %v", s.k.period, s.k.now, n, is, want, wanted)
		}
	}
}

func (s *station) start(on bool) {
	s.t.Helper()
	s.p.Start(on)
	s.k.start(on)
	s.same()
}

func (s *station) tick(n uint64) []int {
	s.t.Helper()
	was := s.k.now
	l, want := s.p.Tick(n), s.k.tick(n)
	wantList(s.t, l, want, "Tick", n, "at", was)
	s.same()
	return l
}

// wantTick looks at what is told, written out.
func (s *station) wantTick(n uint64, want ...int) {
	s.t.Helper()
	wantList(s.t, s.tick(n), want, "Tick", n)
}

func (s *station) wantNext(want uint64, wanted bool) {
	s.t.Helper()
	if n, is := s.p.Next(); n != want || is != wanted {
		s.t.Fatalf("Next: %d %v, want %d %v", n, is, want, wanted)
	}
}

// wantList tells where two lists part, as they may be long.
func wantList(t *testing.T, l, want []int, of ...any) {
	t.Helper()
	if slices.Equal(l, want) {
		return
	}
	i := 0
	for i < min(len(l), len(want)) && l[i] == want[i] {
		i++
	}
	t.Fatalf("%v: %d told, want %d: from the place %d on %v, want %v", of, len(l), len(want), i, l[i:min(len(l), i+5)], want[i:min(len(want), i+5)])
}

// listener is a consumer written otherwise: it keeps what came, and the sum of the ticks behind it, of any size.
type listener struct {
	window uint64
	ring   []int
	came   []int
	since  *big.Int
}

// follows tells whether b stands behind a on the ring.
func (k *listener) follows(a, b int) bool {
	return k.ring[(slices.Index(k.ring, a)+1)%len(k.ring)] == b
}

func (k *listener) take(counter int) api.Errno {
	if !slices.Contains(k.ring, counter) {
		return errForm
	}
	k.came, k.since = append(k.came, counter), big.NewInt(0)
	if n := len(k.came); n > 1 && !k.follows(k.came[n-2], counter) {
		return errState
	}
	return ok
}

func (k *listener) tick(n uint64) {
	k.since = new(big.Int).Add(k.since, new(big.Int).SetUint64(n))
}

func (k *listener) open() bool {
	return len(k.came) > 0 && (k.window == 0 || k.since.Cmp(new(big.Int).SetUint64(k.window)) < 0)
}

func (k *listener) wrong() uint64 {
	var n uint64
	for i := 1; i < len(k.came); i++ {
		if !k.follows(k.came[i-1], k.came[i]) {
			n++
		}
	}
	return n
}

// post is a consumer and the listener that it is held against, call by call.
type post struct {
	t *testing.T
	c *Consumer
	k listener
}

func postOf(t *testing.T, overflow int, window uint64) *post {
	t.Helper()
	c, err := NewConsumer(overflow, window)
	if c == nil || err != ok {
		t.Fatalf("NewConsumer(%d, %d): %v %d", overflow, window, c, err)
	}
	p := &post{t, c, listener{window: window, ring: ring(overflow), since: big.NewInt(0)}}
	p.wantHas(false, 0, 0)
	return p
}

// same looks at what Open, Cycle and Wrong tell, twice, as they change nothing.
func (p *post) same() {
	p.t.Helper()
	for range 2 {
		p.wantHas(p.k.open(), uint64(len(p.k.came)), p.k.wrong())
	}
}

func (p *post) wantHas(open bool, cycle, wrong uint64) {
	p.t.Helper()
	if p.c.Open() != open || p.c.Cycle() != cycle || p.c.Wrong() != wrong {
		p.t.Fatalf("%v behind %v ticks: Open %v, Cycle %d, Wrong %d, want %v %d %d", p.k.window, p.k.since, p.c.Open(), p.c.Cycle(), p.c.Wrong(), open, cycle, wrong)
	}
}

func (p *post) take(counter int) api.Errno {
	p.t.Helper()
	err := p.c.Take(counter)
	if want := p.k.take(counter); err != want {
		p.t.Fatalf("Take(%d) up to %d: %d, want %d", counter, p.k.ring[len(p.k.ring)-1], err, want)
	}
	p.same()
	return err
}

func (p *post) tick(n uint64) {
	p.t.Helper()
	p.c.Tick(n)
	p.k.tick(n)
	p.same()
}

func (p *post) wantTake(counter int, want api.Errno) {
	p.t.Helper()
	if err := p.take(counter); err != want {
		p.t.Fatalf("Take(%d): %d, want %d", counter, err, want)
	}
}

// wantOpen looks whether it is open behind so many further ticks.
func (p *post) wantOpen(n uint64, want bool) {
	p.t.Helper()
	p.tick(n)
	if p.c.Open() != want {
		p.t.Fatalf("Open behind %v ticks of %d: %v", p.k.since, p.k.window, !want)
	}
}

// overflows are those that may be: all of them.
func overflows() []int {
	l := []int{0}
	for n := 2; n <= 240; n++ {
		l = append(l, n)
	}
	return l
}

// dice is a source of numbers that are the same at each run.
type dice uint64

func (r *dice) next() uint64 {
	*r ^= *r << 13
	*r ^= *r >> 7
	*r ^= *r << 17
	return uint64(*r)
}

// below is a number from 0 to n, less 1.
func (r *dice) below(n int) int { return int(r.next() % uint64(n)) }

func (r *dice) once(in int) bool { return r.below(in) == 0 }

// overflow is mostly a small one, now and then any.
func (r *dice) overflow() int {
	switch r.below(4) {
	case 0:
		return 0
	case 1:
		return 2 + r.below(239)
	}
	return 2 + r.below(6)
}

// long is a time of all sizes, at least 1 tick and at most 2^32.
func (r *dice) long() uint64 { return 1 + r.next()%(1<<r.below(33)) }
