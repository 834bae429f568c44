package scan

import (
	"testing"

	"tramway/lss"
)

// Example 1: one slave 1, 2, 3, 4: found.
func TestExample(t *testing.T) {
	slave, _ := lss.New([4]uint32{1, 2, 3, 4}, 0)
	d := deskOf(t)
	for q, is := d.ask(); is; q, is = d.ask() {
		_, answered := slave.Take(q)
		d.answer(answered)
	}
	d.wantEnd(133, [4]uint32{1, 2, 3, 4}, true)
	if slave.Mode() != 1 {
		t.Error("it still waits")
	}
}

// P20.1: a new one has asked nothing, and asks first whether there is one.
func TestNew(t *testing.T) {
	d := deskOf(t)
	if _, is := d.s.Found(); is || d.s.Over() || d.s.Asked() != 0 {
		t.Error("it did something already")
	}
	d.wantAsk(81, 0, 0, 0, 0, 128, 0, 0)
}

// P20.1: the frames of one whose bits are all 0, each of them.
func TestAskNoughts(t *testing.T) {
	d := deskOf(t)
	d.wantAsk(81, 0, 0, 0, 0, 128)
	d.answer(true)
	for part := range byte(4) {
		for bit := 31; bit >= 0; bit-- {
			d.wantAsk(81, 0, 0, 0, 0, byte(bit), part, part)
			d.answer(true)
		}
		d.wantAsk(81, 0, 0, 0, 0, 0, part, []byte{1, 2, 3, 0}[part])
		d.answer(true)
	}
	d.wantEnd(133, [4]uint32{}, true)
}

// P20.1: the frames of one whose bits are all 1: what is known grows from the highest bit on.
func TestAskOnes(t *testing.T) {
	d := deskOf(t)
	d.goOn(true)
	for part := range byte(4) {
		known := []byte{0, 0, 0, 0}
		for bit := 31; bit >= 0; bit-- {
			d.wantAsk(81, known[0], known[1], known[2], known[3], byte(bit), part, part)
			d.answer(false)
			known[bit/8] |= 1 << (bit % 8)
		}
		d.wantAsk(81, 255, 255, 255, 255, 0, part, []byte{1, 2, 3, 0}[part])
		d.answer(true)
	}
	d.wantEnd(133, [4]uint32{0xffffffff, 0xffffffff, 0xffffffff, 0xffffffff}, true)
}

// P20.1: known lies in bytes 1 to 4, the lowest first; of the next part nothing is known.
func TestAskKnown(t *testing.T) {
	d := deskOf(t)
	l := answersFor([4]uint32{0x04030201, 0xa4a3a2a1, 0xf4f3f2f1, 0x7f010080})
	d.goOn(l[:32]...)
	d.wantAsk(81, 0, 2, 3, 4, 0, 0, 0)
	d.goOn(l[32])
	d.wantAsk(81, 1, 2, 3, 4, 0, 0, 1)
	d.goOn(l[33])
	d.wantAsk(81, 0, 0, 0, 0, 31, 1, 1)
	d.goOn(l[34:50]...)
	d.wantAsk(81, 0, 0, 0xa3, 0xa4, 15, 1, 1)
	d.goOn(l[50:66]...)
	d.wantAsk(81, 0xa1, 0xa2, 0xa3, 0xa4, 0, 1, 2)
	d.goOn(l[66:99]...)
	d.wantAsk(81, 0xf1, 0xf2, 0xf3, 0xf4, 0, 2, 3)
	d.goOn(l[99:132]...)
	d.wantAsk(81, 0x80, 0, 1, 0x7f, 0, 3, 0)
	d.goOn(l[132])
	d.wantEnd(133, [4]uint32{0x04030201, 0xa4a3a2a1, 0xf4f3f2f1, 0x7f010080}, true)
}

// P20.1: asked again, it asks the same, and it is one question yet.
func TestAskAgain(t *testing.T) {
	d := deskOf(t)
	for i := range 133 {
		first, is := d.ask()
		for range 3 {
			if q, there := d.ask(); q != first || !is || !there {
				t.Fatalf("question %d: %v, and again: %v %v", i, first, q, there)
			}
		}
		d.answer(i%5 != 1 || i%33 == 0)
		if d.s.Asked() != i+1 {
			t.Fatalf("%d answers, want %d", d.s.Asked(), i+1)
		}
	}
	if !d.s.Over() {
		t.Error("133, and not over")
	}
}

// P20.2: an answer without a question ahead does nothing, at the beginning and behind each answer.
func TestAnswerUnasked(t *testing.T) {
	for _, y := range []bool{true, false} {
		d := deskOf(t)
		for _, x := range answersFor([4]uint32{0xf0f0f0f0, 0, 0xffffffff, 7}) {
			before := *d.s
			d.answer(y)
			d.answer(!y)
			if *d.s != before {
				t.Fatalf("%d answers: an answer to nothing does something", d.s.Asked())
			}
			d.goOn(x)
		}
		d.answer(y)
		d.wantEnd(133, [4]uint32{0xf0f0f0f0, 0, 0xffffffff, 7}, true)
	}
}

// P20.2: nobody answers the first question: it is over.
func TestNobody(t *testing.T) {
	d := deskOf(t)
	d.goOn(false)
	d.wantEnd(1, [4]uint32{}, false)
}

// P20.2: nobody answers the last question of a part: it is over, whatever is known of it and of those ahead.
func TestNobodyAnyMore(t *testing.T) {
	for part := range 4 {
		for _, a := range [][4]uint32{{}, {1, 2, 3, 4}, {0xffffffff, 0xffffffff, 0xffffffff, 0xffffffff}} {
			d := deskOf(t)
			d.goOn(answersFor(a)[:33*part+33]...)
			d.goOn(false)
			d.wantEnd(33*part+34, [4]uint32{}, false)
		}
	}
}

// P20.2: a no to a bit is that bit, and no end, also where all of them are so.
func TestEachBit(t *testing.T) {
	for part := range 4 {
		for bit := range 32 {
			d := deskOf(t)
			l := yes(133)
			l[1+33*part+31-bit] = false
			d.goOn(l...)
			var a [4]uint32
			a[part] = 1 << bit
			d.wantEnd(133, a, true)
		}
	}
}

// P20.2: one that is over stays so: answers and questions change nothing.
func TestOver(t *testing.T) {
	for _, l := range [][]bool{{false}, append(yes(33), false), append(yes(132), false), yes(133)} {
		d := deskOf(t)
		d.goOn(l...)
		before := *d.s
		for i := range 10 {
			d.answer(i%2 == 0)
			d.ask()
			d.answer(i%3 == 0)
		}
		if *d.s != before || !d.s.Over() {
			t.Errorf("behind %d answers it goes on", len(l))
		}
	}
}

// P20.2: nothing is found ahead of the last answer of all.
func TestFoundLast(t *testing.T) {
	d := deskOf(t)
	for i, y := range answersFor([4]uint32{1, 2, 3, 4}) {
		if a, is := d.s.Found(); is || a != [4]uint32{} || d.s.Over() {
			t.Fatalf("%d answers: %x", i, a)
		}
		d.goOn(y)
	}
	d.wantEnd(133, [4]uint32{1, 2, 3, 4}, true)
}

// P20.1, P20.2: all rows of some calls, at the beginning and where a part or all of it ends.
func TestAllRows(t *testing.T) {
	const long = 7
	for _, from := range []int{0, 1, 30, 31, 32, 33, 65, 98, 129, 130, 131, 132} {
		rows := 1
		for range long {
			rows *= 3
		}
		for n := range rows {
			d := deskOf(t)
			d.goOn(yes(from)...)
			for range long {
				if n%3 == 0 {
					d.ask()
				} else {
					d.answer(n%3 == 1)
				}
				n /= 3
			}
		}
	}
}

// P20.1, P20.2: long runs of scans against their logs.
func TestRuns(t *testing.T) {
	r := dice(20)
	for range 400 {
		d := deskOf(t)
		often := 1 + r.below(4)
		for range 400 {
			_, known := turn(len(d.g.answers))
			switch {
			case r.below(8) < 5:
				d.ask()
			case known < 32 && len(d.g.answers) > 0:
				d.answer(r.below(often) == 0)
			default:
				d.answer(r.below(20) > 0)
			}
		}
	}
}

// From arguments alone: two scans know nothing of one another.
func TestApart(t *testing.T) {
	a, b := deskOf(t), deskOf(t)
	for i, y := range answersFor([4]uint32{5, 6, 7, 8}) {
		a.ask()
		b.answer(!y)
		if i%2 == 0 {
			b.ask()
		}
		a.answer(y)
	}
	a.wantEnd(133, [4]uint32{5, 6, 7, 8}, true)
}

// Ends: what the zero value answers is open, but it answers.
func TestZero(t *testing.T) {
	var s Scan
	for i := range 300 {
		s.Ask()
		s.Answer(i%2 == 0)
		s.Found()
		s.Over()
		s.Asked()
	}
}
