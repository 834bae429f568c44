package block

import (
	"fmt"
	"strings"
	"testing"

	"tramway/api"
	"tramway/bits"
)

// line is a sender and a receiver. Answers come through; frames of blocks are lost, or changed, as somebody says.
type line struct {
	t      *testing.T
	s      *Sender
	r      *Receiver
	loses  func(block, i int) bool // which block, the how manyth frame of it
	turns  func(f [8]byte) [8]byte // what a frame is changed to
	blocks int                     // that were sent
	frames int                     // that came
	most   int                     // blocks, till it is no end
	empty  bool                    // a frame came that may be an abort with the code Fine
}

func lineOf(t *testing.T, b string, size int) *line {
	t.Helper()
	s, err := NewSender([]byte(b))
	r, errno := NewReceiver(size)
	if err != api.OK || errno != api.OK {
		t.Fatalf("%d %d", err, errno)
	}
	return &line{t: t, s: s, r: r, most: 10000, loses: func(int, int) bool { return false }, turns: func(f [8]byte) [8]byte { return f }}
}

// over hands a block's frames to the receiver, and lets time run out, if it does not answer: the first answer.
func (w *line) over(l [][8]byte) [8]byte {
	var answers [][8]byte
	for i, f := range l {
		if w.loses(w.blocks, i) {
			continue
		}
		w.frames++
		f = w.turns(f)
		w.empty = w.empty || f[0]/32 == 4 && [4]byte(f[4:]) == [4]byte{}
		if a, is := w.r.Feed(f); is {
			answers = append(answers, a)
		}
	}
	w.blocks++
	if len(answers) == 0 {
		a, _ := w.r.Ask()
		return a
	}
	return answers[0]
}

// isBlock tells whether these are a block's frames, not the end or an abort: those begin with the number 1, or with a last one of that number.
func isBlock(l [][8]byte) bool { return len(l) > 0 && l[0][0]&0x7f == 1 }

// talks lets both talk till the sender is done; whether that was within so many blocks.
func (w *line) talks(size int) bool {
	w.t.Helper()
	l, err := w.s.Begin(size)
	if err != api.OK {
		w.t.Fatalf("Begin(%d): %d", size, err)
	}
	for len(l) > 0 {
		var a [8]byte
		if isBlock(l) {
			a = w.over(l)
		} else if answer, is := w.r.Feed(l[0]); is {
			a = answer
		} else if answer, is := w.r.Ask(); is {
			a = answer
		} else {
			return true
		}
		if w.blocks > w.most {
			return false
		}
		l = w.s.Feed(a)
	}
	return true
}

// wantAll looks whether both are done well, and the receiver has just these bytes.
func (w *line) wantAll(b string) {
	w.t.Helper()
	got, code, done := w.r.Done()
	if c, is := w.s.Done(); c != api.Fine || !is {
		w.t.Fatalf("sender: %x %v, receiver: %x %v", c, is, code, done)
	}
	if string(got) != b || code != api.Fine || !done {
		w.t.Fatalf("%v, want %q", outcome{string(got), code, done}, b)
	}
}

// P12.5: no frame is lost: each number of bytes, up to the most that there may be.
func TestThrough(t *testing.T) {
	d := dice(1250)
	counts := []int{most - 8, most - 7, most - 6, most - 5, most - 4, most - 3, most - 2, most - 1, most}
	for n := range 300 {
		counts = append(counts, n)
	}
	for _, n := range counts {
		for _, size := range []int{1, 2, 7, 127} {
			b := d.bytes(n)
			w := lineOf(t, b, size)
			if !w.talks(size) {
				t.Fatal("no end")
			}
			w.wantAll(b)
			if k := len(cut(b)); w.blocks != (k+size-1)/size {
				t.Fatalf("%d bytes, size %d: %d blocks", n, size, w.blocks)
			}
		}
	}
}

// P12.5: whatever frames are lost, whole blocks among them, of bytes that have noughts at their ends, too: it is what was sent.
func TestLost(t *testing.T) {
	d := dice(1251)
	for n := range 6000 {
		b := d.bytes(d.below(250))
		if n%3 == 0 {
			b = strings.Repeat("\x00", d.below(30)) + b[:len(b)/2] + strings.Repeat("\x00", d.below(30))
		}
		w := lineOf(t, b, 1+d.below(20))
		in := 1 + d.below(4)
		w.loses = func(int, int) bool { return in == 1 && !d.once(3) || in > 1 && d.once(in) }
		if !w.talks(1 + d.below(20)) {
			t.Fatal("no end")
		}
		w.wantAll(b)
	}
}

// P12.5: each set of frames of the first two blocks is lost.
func TestEachLost(t *testing.T) {
	for first := 1; first <= 5; first++ {
		for size := 1; size <= 5; size++ {
			for set := range 1 << 10 {
				w := lineOf(t, nine, size)
				w.loses = func(block, i int) bool { return block < 2 && set>>(5*block+i)&1 == 1 }
				if !w.talks(first) {
					t.Fatal("no end")
				}
				w.wantAll(nine)
			}
		}
	}
}

// P12.5: time runs out behind the first frames of a block, and the others come late: they are as lost.
func TestLate(t *testing.T) {
	d := dice(1252)
	for range 3000 {
		b := d.bytes(d.below(200))
		size := 1 + d.below(12)
		w := lineOf(t, b, size)
		l, _ := w.s.Begin(1 + d.below(12))
		for isBlock(l) {
			early := 1 + d.below(len(l))
			var a [8]byte
			is := false
			for i, f := range l {
				if i == early && !is {
					a, is = w.r.Ask()
				}
				if answer, told := w.r.Feed(f); told && !is {
					a, is = answer, true
				} else if told {
					t.Fatalf("two answers: % x", answer)
				}
			}
			if !is {
				a, _ = w.r.Ask()
			}
			l = w.s.Feed(a)
		}
		a, _ := w.r.Feed(l[0])
		w.s.Feed(a)
		w.wantAll(b)
	}
}

// P12.6: the first frame of each block comes, others may be lost: within as many blocks as there are segments; if no other one comes, it is just so many.
func TestInTheEnd(t *testing.T) {
	d := dice(126)
	for n := range 4000 {
		b := d.bytes(d.below(250))
		w := lineOf(t, b, 1+d.below(20))
		in := d.below(5)
		w.loses = func(_, i int) bool { return i > 0 && (in == 0 || d.once(in)) }
		w.most = len(cut(b))
		if !w.talks(1 + d.below(20)) {
			t.Fatalf("run %d: more blocks than segments", n)
		}
		w.wantAll(b)
		if in == 0 && w.blocks != len(cut(b)) {
			t.Fatalf("run %d: %d blocks of %d segments", n, w.blocks, len(cut(b)))
		}
	}
	for _, n := range []int{most - 1, most} {
		b := d.bytes(n)
		w := lineOf(t, b, 127)
		w.loses = func(_, i int) bool { return i > 0 }
		w.most = len(cut(b))
		if !w.talks(127) {
			t.Fatal("more blocks than segments")
		}
		w.wantAll(b)
	}
}

// P12.6: no frame of a block comes: the same block again, till one comes.
func TestNoneComes(t *testing.T) {
	w := lineOf(t, nine, 4)
	w.loses = func(block, i int) bool { return block < 50 }
	w.talks(4)
	w.wantAll(nine)
	if w.blocks != 50+3 {
		t.Errorf("%d blocks", w.blocks)
	}
}

// P12.7: a single bit of a segment is another one: it is found, unless it is one that was filled up.
func TestSingleBits(t *testing.T) {
	for n := range 25 {
		b := "bytes that will be others"[:n]
		for at := range 7 * len(cut(b)) {
			for bit := range 8 {
				w := lineOf(t, b, 3)
				w.turns = func(f [8]byte) [8]byte {
					if (w.frames - 1) == at/7 {
						f[1+at%7] ^= 1 << bit
					}
					return f
				}
				w.talks(2)
				if at >= n {
					w.wantAll(b)
					continue
				}
				got, code, done := w.r.Done()
				if c, is := w.s.Done(); c != api.BadCRC || !is || len(got) != 0 || code != api.BadCRC || !done {
					t.Fatalf("%d bytes, at %d, bit %d: sender %x %v, receiver %v", n, at, bit, c, is, outcome{string(got), code, done})
				}
			}
		}
	}
}

// notTheWrong looks whether a receiver has what was sent, or an abort, or bytes of the same sum, or is not done.
func (w *line) notTheWrong(b string) outcome {
	w.t.Helper()
	got, code, done := w.r.Done()
	o := outcome{string(got), code, done}
	if code == api.Fine && done && string(got) != b && bits.CRC16(got) != bits.CRC16([]byte(b)) && !(w.empty && len(got) == 0) {
		w.t.Fatalf("%v, want %q", o, b)
	}
	if code != api.Fine && len(got) != 0 {
		w.t.Fatalf("%v: bytes beside a code", o)
	}
	return o
}

// P12.7: segments are lost, and their bytes are others: the receiver is done with all that was sent, or with an abort.
func TestChangedBytes(t *testing.T) {
	d := dice(127)
	ended := map[uint32]int{}
	for range 6000 {
		b := d.bytes(d.below(120))
		w := lineOf(t, b, 1+d.below(8))
		w.loses = func(_, i int) bool { return d.once(6) }
		w.turns = func(f [8]byte) [8]byte {
			if d.once(15) {
				f[1+d.below(7)] = byte(d.next())
			}
			return f
		}
		if !w.talks(1 + d.below(8)) {
			t.Fatal("no end")
		}
		o := w.notTheWrong(b)
		if c, is := w.s.Done(); !o.done || !is || c != o.code {
			t.Fatalf("sender %x %v, receiver %v", c, is, o)
		}
		ended[o.code]++
	}
	if ended[api.Fine] < 500 || ended[api.BadCRC] < 500 || len(ended) != 2 {
		t.Errorf("%v", ended)
	}
}

// P12.7: their numbers are others, too: a receiver that is done has what was sent, or an abort. (It may be one with the code Fine: a segment whose number looks so.)
func TestChangedNumbers(t *testing.T) {
	d := dice(1270)
	ended := map[uint32]int{}
	for range 20000 {
		b := d.bytes(d.below(120))
		w := lineOf(t, b, 1+d.below(8))
		w.most = 100
		w.loses = func(_, i int) bool { return d.once(8) }
		w.turns = func(f [8]byte) [8]byte {
			switch {
			case d.once(40):
				f[0] ^= 128
			case d.once(40):
				f[0] = byte(d.next())
			case d.once(40):
				f[0] = byte(d.below(9))
			}
			return f
		}
		w.talks(1 + d.below(8))
		o := w.notTheWrong(b)
		if o.done {
			ended[o.code]++
		}
	}
	if ended[api.Fine] < 5000 || ended[api.BadCRC] < 200 {
		t.Errorf("too few: %d well, %d with another sum", ended[api.Fine], ended[api.BadCRC])
	}
}

// P12.7: other bytes that have the same sum are not told apart: noughts ahead of all play no part in it.
func TestSameSum(t *testing.T) {
	r, _ := NewReceiver(2)
	r.Feed(arrayOf(framed(1)))
	r.Feed(arrayOf(framed(0x82, "abcdefg")))
	if a, is := r.Feed(arrayOf(framed(0xc1, sumOf("abcdefg")))); a != [8]byte{0xa1} || !is {
		t.Errorf("% x %v", a, is)
	}
}

// P12.8: blocks of whatever size, the first one's and the others', and another one at each answer.
func TestWhateverSizes(t *testing.T) {
	d := dice(128)
	b := d.bytes(900)
	for first := 1; first <= 127; first++ {
		for size := 1; size <= 127; size++ {
			w := lineOf(t, b, size)
			if !w.talks(first) {
				t.Fatal("no end")
			}
			w.wantAll(b)
		}
	}
	for range 2000 {
		b := d.bytes(d.below(400))
		s, _ := NewSender([]byte(b))
		r, _ := NewReceiver(1 + d.below(127))
		l, _ := s.Begin(1 + d.below(127))
		w := &line{t: t, s: s, r: r, loses: func(int, int) bool { return d.once(9) }, turns: func(f [8]byte) [8]byte { return f }}
		for isBlock(l) {
			a := w.over(l)
			a[2] = byte(1 + d.below(127))
			l = s.Feed(a)
		}
		a, _ := r.Feed(l[0])
		s.Feed(a)
		w.wantAll(b)
	}
}

// P12.9: each side gives up, and its abort ends the other one with its code.
func TestAbortsEndTheOther(t *testing.T) {
	// The receiver gives up at the end.
	w := lineOf(t, nine, 127)
	w.turns = func(f [8]byte) [8]byte { f[3]++; return f }
	w.talks(127)
	if o := w.notTheWrong(nine); o != (outcome{"", api.BadCRC, true}) {
		t.Errorf("receiver: %v", o)
	}
	if c, is := w.s.Done(); c != api.BadCRC || !is {
		t.Errorf("sender: %x %v", c, is)
	}
	// The sender gives up, as an answer comes twice.
	w = lineOf(t, nine, 127)
	l, _ := w.s.Begin(127)
	w.s.Feed(w.over(l))
	a, _ := w.r.Ask()
	l = w.s.Feed(a)
	if len(l) != 1 || string(l[0][:]) != given(api.NoCommand) {
		t.Fatalf("% x", l)
	}
	if a, is := w.r.Feed(l[0]); is || a != [8]byte{} {
		t.Errorf("% x %v", a, is)
	}
	if o := w.notTheWrong(nine); o != (outcome{"", api.NoCommand, true}) {
		t.Errorf("receiver: %v", o)
	}
	// The receiver has no room: a sender that waits for the answer to a block hears of it.
	r, n := filled(t, (most+7)/7)
	s, _ := NewSender([]byte(nine))
	s.Begin(1)
	a, _ = r.Feed([8]byte{byte(n + 1)})
	if l := s.Feed(a); len(l) != 0 {
		t.Errorf("% x", l)
	}
	if c, is := s.Done(); c != api.NoMemory || !is {
		t.Errorf("sender: %x %v", c, is)
	}
}

// From arguments alone: two of a kind know nothing of one another.
func TestTwoOfAKind(t *testing.T) {
	var lines []*line
	var blocks [][][8]byte
	for i := range 5 {
		b := fmt.Sprint(i, nine, i)
		w := lineOf(t, b, 1+i)
		l, _ := w.s.Begin(1 + i)
		lines, blocks = append(lines, w), append(blocks, l)
	}
	for range 20 {
		for i, w := range lines {
			switch l := blocks[i]; {
			case isBlock(l):
				blocks[i] = w.s.Feed(w.over(l))
			case len(l) > 0:
				a, _ := w.r.Feed(l[0])
				blocks[i] = w.s.Feed(a)
			}
		}
	}
	for i, w := range lines {
		w.wantAll(fmt.Sprint(i, nine, i))
	}
}
