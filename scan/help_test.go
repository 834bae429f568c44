package scan

import (
	"fmt"
	"math"
	"slices"
	"testing"

	"tramway/api"
	"tramway/lss"
)

// The errors, by hand.
const (
	ok      api.Errno = 0
	errArg  api.Errno = 1
	errLong api.Errno = 2
	errNone api.Errno = 4
)

// badNumbers are no numbers of nodes; the low bytes of some of them are.
var badNumbers = []int{math.MinInt, -1 << 32, -256, -127, -1, 0, 128, 129, 255, 256, 261, 1 << 31, 1 << 32, 1<<32 + 5, math.MaxInt}

// The frames that most tests hand to slaves.
var (
	toWait   = [8]byte{4, 0}
	toSet    = [8]byte{4, 1}
	keep     = [8]byte{23}
	scanAnew = [8]byte{81, 0, 0, 0, 0, 128}
)

// ask is a scan's frame, by hand.
func ask(n uint32, bit, part, next byte) [8]byte {
	return [8]byte{81, byte(n), byte(n >> 8), byte(n >> 16), byte(n >> 24), bit, part, next}
}

// turn is where the question behind so many answers stands: a part of which so many bits are known (32: all of them). The first question of all stands nowhere.
func turn(answers int) (part, known int) { return (answers - 1) / 33, (answers - 1) % 33 }

// log is a scan written otherwise: it keeps all answers, and looks back.
type log struct {
	asked   bool // behind the last answer
	answers []bool
}

// part is what the answers tell of one: each bit by itself.
func (g *log) part(part int) uint32 {
	n := uint32(0)
	for i, yes := range g.answers {
		if i == 0 || yes {
			continue
		}
		if of, bits := turn(i); of == part && bits < 32 {
			n += 1 << (31 - bits)
		}
	}
	return n
}

// failed: whether a no came where it is the end.
func (g *log) failed() bool {
	for i, yes := range g.answers {
		if _, bits := turn(i); !yes && (i == 0 || bits == 32) {
			return true
		}
	}
	return false
}

func (g *log) over() bool { return g.failed() || len(g.answers) == 133 }

func (g *log) found() ([4]uint32, bool) {
	if g.failed() || len(g.answers) < 133 {
		return [4]uint32{}, false
	}
	return [4]uint32{g.part(0), g.part(1), g.part(2), g.part(3)}, true
}

func (g *log) ask() ([8]byte, bool) {
	if g.over() {
		return [8]byte{}, false
	}
	g.asked = true
	if len(g.answers) == 0 {
		return scanAnew, true
	}
	part, known := turn(len(g.answers))
	if known < 32 {
		return ask(g.part(part), byte(31-known), byte(part), byte(part)), true
	}
	return ask(g.part(part), 0, byte(part), []byte{1, 2, 3, 0}[part]), true
}

func (g *log) answer(yes bool) {
	if g.asked {
		g.asked = false
		g.answers = append(g.answers, yes)
	}
}

// desk is a scan and the log that it is held against, call by call.
type desk struct {
	t *testing.T
	s *Scan
	g log
}

func deskOf(t *testing.T) *desk {
	t.Helper()
	d := &desk{t: t, s: New()}
	if d.s == nil {
		t.Fatal("New: none")
	}
	d.same()
	return d
}

// same looks at all that may be looked at, which changes nothing.
func (d *desk) same() {
	d.t.Helper()
	want, there := d.g.found()
	if a, is := d.s.Found(); a != want || is != there {
		d.t.Fatalf("Found: %x %v, want %x %v: %v", a, is, want, there, d.g)
	}
	if over := d.s.Over(); over != d.g.over() {
		d.t.Fatalf("Over: %v: %v", over, d.g)
	}
	if n := d.s.Asked(); n != len(d.g.answers) {
		d.t.Fatalf("Asked: %d: %v", n, d.g)
	}
}

func (d *desk) ask() ([8]byte, bool) {
	d.t.Helper()
	q, is := d.s.Ask()
	want, there := d.g.ask()
	if q != want || is != there {
		d.t.Fatalf("Ask: %v %v, want %v %v: %v", q, is, want, there, d.g)
	}
	d.same()
	return q, is
}

func (d *desk) answer(yes bool) {
	d.t.Helper()
	d.s.Answer(yes)
	d.g.answer(yes)
	d.same()
}

// goOn asks, and answers, so many times.
func (d *desk) goOn(l ...bool) {
	d.t.Helper()
	for _, yes := range l {
		d.ask()
		d.answer(yes)
	}
}

// wantAsk: what it asks next, by hand.
func (d *desk) wantAsk(want ...byte) {
	d.t.Helper()
	var a [8]byte
	copy(a[:], want)
	if q, is := d.ask(); q != a || !is {
		d.t.Fatalf("Ask: %v %v, want %v", q, is, a)
	}
}

// wantEnd: it is over, with an address, or none, by hand.
func (d *desk) wantEnd(asked int, want [4]uint32, found bool) {
	d.t.Helper()
	if q, is := d.ask(); q != [8]byte{} || is {
		d.t.Fatalf("Ask: %v %v at the end", q, is)
	}
	a, is := d.s.Found()
	if a != want || is != found || !d.s.Over() || d.s.Asked() != asked {
		d.t.Fatalf("%x %v %v %d, want %x %v, over, %d", a, is, d.s.Over(), d.s.Asked(), want, found, asked)
	}
}

// yes is so many answers that are yes.
func yes(n int) []bool { return slices.Repeat([]bool{true}, n) }

// answersFor is how an only slave of an address answers, question by question.
func answersFor(a [4]uint32) []bool {
	l := yes(1)
	for _, n := range a {
		for bit := 31; bit >= 0; bit-- {
			l = append(l, n>>bit&1 == 0)
		}
		l = append(l, true)
	}
	return l
}

// handAll hands frames to all slaves: whether the last one was answered.
func handAll(l []*lss.Slave, frames ...[8]byte) bool {
	answered := false
	for _, q := range frames {
		answered = false
		for _, s := range l {
			_, is := s.Take(q)
			answered = is || answered
		}
	}
	return answered
}

// seek is a scan as one row of questions, to all slaves.
func seek(l []*lss.Slave) (a [4]uint32, found bool) {
	if !handAll(l, scanAnew) {
		return a, false
	}
	for part := range byte(4) {
		for bit := 32; bit > 0; bit-- {
			if !handAll(l, ask(a[part], byte(bit-1), part, part)) {
				a[part] |= 1 << (bit - 1)
			}
		}
		if !handAll(l, ask(a[part], 0, part, (part+1)%4)) {
			return [4]uint32{}, false
		}
	}
	return a, true
}

// allByHand is All of what can be, step by step as its promise has it.
func allByHand(l []*lss.Slave, ids []int) (told [][4]uint32, err api.Errno) {
	left := slices.Clone(ids)
	for len(left) > 0 {
		a, found := seek(l)
		if !found {
			return told, ok
		}
		handAll(l, [8]byte{17, byte(left[0])}, toWait)
		told, left = append(told, a), left[1:]
	}
	if handAll(l, scanAnew) {
		return told, errNone
	}
	return told, ok
}

// state is all that a slave shows of itself.
func state(s *lss.Slave) string {
	pending, used := s.ID()
	rate, now := s.Rate()
	id, kept, is := s.Stored()
	return fmt.Sprint(s.Mode(), pending, used, rate, now, id, kept, is)
}

// slavesOf are slaves of addresses that wait, with numbers (all behind them: none).
func slavesOf(t *testing.T, as [][4]uint32, ids ...int) []*lss.Slave {
	t.Helper()
	var l []*lss.Slave
	for i, a := range as {
		id := 0
		if i < len(ids) {
			id = ids[i]
		}
		s, err := lss.New(a, id)
		if err != ok {
			t.Fatalf("New(%x, %d): %d", a, id, err)
		}
		l = append(l, s)
	}
	return l
}

// wantAll: what All answers, by hand.
func wantAll(t *testing.T, l []*lss.Slave, ids []int, err api.Errno, want ...[4]uint32) {
	t.Helper()
	if told, e := All(l, ids); e != err || !slices.Equal(told, want) {
		t.Fatalf("All of %d slaves, %v: %x %d, want %x %d", len(l), ids, told, e, want, err)
	}
}

// wantIDs: the numbers that slaves use, and which are pending, by hand; and that they wait.
func wantIDs(t *testing.T, l []*lss.Slave, want ...int) {
	t.Helper()
	for i, s := range l {
		if p, u := s.ID(); p != want[i] || u != want[i] || s.Mode() != 0 {
			t.Fatalf("slave %d: %d %d, mode %d, want %d", i, p, u, s.Mode(), want[i])
		}
	}
}

// die is a source of numbers that are always the same ones.
type die uint64

func dice(seed uint64) *die {
	d := die(seed)
	return &d
}

func (d *die) next() uint64 {
	*d += 0x9e3779b97f4a7c15
	z := uint64(*d)
	z = (z ^ z>>30) * 0xbf58476d1ce4e5b9
	z = (z ^ z>>27) * 0x94d049bb133111eb
	return z ^ z>>31
}

func (d *die) below(n int) int { return int(d.next() >> 1 % uint64(n)) }

// shuffled are numbers below n, in some order.
func (d *die) shuffled(n int) []int {
	l := make([]int, n)
	for i := range l {
		k := d.below(i + 1)
		l[i], l[k] = l[k], i
	}
	return l
}

// addresses are n different ones; many of them differ from one another in few bits.
func (d *die) addresses(n int) [][4]uint32 {
	var l [][4]uint32
	for len(l) < n {
		var a [4]uint32
		if len(l) == 0 || d.below(8) == 0 {
			for k := range a {
				a[k] = uint32(d.next()) >> d.below(33)
			}
		} else {
			a = l[d.below(len(l))]
			for range 1 + d.below(2) {
				a[d.below(4)] ^= 1 << d.below(32)
			}
		}
		if !slices.Contains(l, a) {
			l = append(l, a)
		}
	}
	return l
}

// ids are so many numbers of nodes, none of them twice.
func (d *die) ids(n int) []int {
	l := d.shuffled(127)[:n]
	for i := range l {
		l[i]++
	}
	return l
}

// some is an address of some.
func (d *die) some(l [][4]uint32) [4]uint32 { return l[d.below(len(l))] }
