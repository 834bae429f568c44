package emcy

import (
	"slices"
	"testing"

	"tramway/api"
)

// P16.1 to P16.3: all rows of some calls, of all short histories and times, against their scribes.
func TestAllShortRuns(t *testing.T) {
	const kinds, long = 8, 5
	rows := 1
	for range long {
		rows *= kinds
	}
	for history := 1; history <= 2; history++ {
		for inhibit := range uint64(3) {
			for n := range rows {
				d := deskOf(t, history, inhibit)
				for range long {
					d.call(n % kinds)
					n /= kinds
				}
				d.same()
				d.frame()
				d.tick()
			}
		}
	}
}

// call makes one of a few calls.
func (d *desk) call(kind int) {
	d.t.Helper()
	switch kind {
	case 0:
		d.raise(trouble(0x2001, 2, 1))
	case 1:
		d.raise(trouble(0x1001, 7, 2))
	case 2:
		d.raise(trouble(0x2100, 0, 3))
	case 3:
		d.clear(0x2001)
	case 4:
		d.clear(0x1001)
	case 5:
		d.tick()
	case 6:
		d.frame()
	default:
		d.forget()
	}
}

// P16.1 to P16.3: long runs of tellers that raise much or little, against their scribes.
func TestRuns(t *testing.T) {
	r := dice(16)
	for range 400 {
		d := deskOf(t, 1+r.below(1+r.below(20)), uint64(r.below(1+r.below(6))))
		kinds, busy := 1+r.below(60), 1+r.below(20)
		for range 250 {
			switch n := r.below(40); {
			case n == 0:
				d.forget()
			case n < 1+busy:
				d.raise(r.trouble(kinds))
			case n < 1+busy+busy/2:
				d.clear(r.code(kinds))
			case n%2 == 0:
				d.tick()
			default:
				d.frame()
			}
			d.same()
		}
	}
}

// P16.2: as many errors as there may be are there at once, each told of by the register.
func TestAllAtOnce(t *testing.T) {
	s, _ := New(254, 0)
	for n := 0xffff; n >= 0; n-- {
		if is := s.Raise(trouble(uint16(n), uint8(n>>8&2), byte(n))); is != (n >= 256) {
			t.Fatalf("Raise %x: %v", n, is)
		}
	}
	l := s.Now()
	if len(l) != 65280 || s.Register() != 3 {
		t.Fatalf("%d are there, Register %x", len(l), s.Register())
	}
	for i, x := range l {
		if n := 0xffff - i; x != trouble(uint16(n), uint8(n>>8&2), byte(n)) {
			t.Fatalf("Now %d: %x", i, x)
		}
	}
	if l := s.History(); len(l) != 254 || l[0].Code != 0x100 || l[253].Code != 0x1fd {
		t.Fatalf("%d in the history", len(l))
	}
}

// P16.4: what is told is a frame for each call that answered true, in their order; the last one says whether there are errors.
func TestAllIsTold(t *testing.T) {
	r := dice(4)
	for range 500 {
		inhibit := uint64(r.below(5))
		s, _ := New(1+r.below(254), inhibit)
		var want []uint16 // the codes that were raised; of what was cleared 0
		var told []api.Trouble
		hear := func(ticks uint64) {
			for range ticks {
				if b, is := s.Frame(); is {
					told = append(told, Read(b))
				}
				s.Tick()
			}
		}
		for range 200 {
			x := r.trouble(12)
			if r.below(2) == 0 {
				x.Code = r.code(12)
				if s.Clear(x.Code) {
					want = append(want, 0)
				}
			} else if s.Raise(x) {
				want = append(want, x.Code)
			}
			hear(uint64(r.below(4)))
			if len(want)-len(told) == 16 {
				hear(inhibit + 1)
			}
		}
		hear(16 * (inhibit + 1))
		if len(told) != len(want) {
			t.Fatalf("%d are told, want %d", len(told), len(want))
		}
		wantTold(t, s, want, told)
	}
}

// wantTold looks at frames that were told against the codes that were raised, and at the last one against what is there.
func wantTold(t *testing.T, s *Teller, want []uint16, told []api.Trouble) {
	t.Helper()
	for i, x := range told {
		if want[i] != 0 && x.Code != want[i] || want[i] == 0 && x.Extra != [5]byte{} {
			t.Fatalf("frame %d of %d: %x, want %x", i, len(want), x, want[i])
		}
		if (x.Code == 0) != (x.Register == 0) {
			t.Fatalf("frame %d: %x", i, x)
		}
	}
	if len(told) == 0 {
		t.Fatal("nothing is told")
	}
	last := told[len(told)-1]
	if last.Register != s.Register() || (last.Code == 0) != (len(s.Now()) == 0) {
		t.Fatalf("the last one is %x, there are %x", last, s.Now())
	}
}

// P16.5, P16.6: the register is 0 just if nothing is there; the history begins with what was raised, from the last one on.
func TestRegisterAndHistory(t *testing.T) {
	r := dice(5)
	for range 300 {
		history := 1 + r.below(254)
		s, _ := New(history, far)
		there := 0
		var past []api.Trouble
		for range 200 {
			if x := r.trouble(6); r.below(2) == 0 {
				if s.Raise(x) {
					there++
					past = append(past, x)
				}
			} else if s.Clear(x.Code) {
				there--
			}
			if (s.Register() == 0) != (there == 0) || len(s.Now()) != there {
				t.Fatalf("Register %x, there are %d", s.Register(), there)
			}
		}
		slices.Reverse(past)
		wantList(t, "History", s.History(), past[:min(len(past), history)])
	}
}

// P16.7: between two frames at least inhibit ticks go by, and no more if one waits.
func TestQuietBetween(t *testing.T) {
	r := dice(7)
	for range 500 {
		inhibit := uint64(r.below(30))
		s, _ := New(3, inhibit)
		ticks, times := uint64(0), 0
		for range 600 {
			x := r.trouble(5)
			switch r.below(6) {
			case 0:
				s.Raise(x)
			case 1:
				s.Clear(x.Code)
			case 2:
				ticks++
				s.Tick()
			}
			waits := len(s.waits) > 0
			_, is := s.Frame()
			if want := waits && (times == 0 || ticks >= inhibit); is != want {
				t.Fatalf("inhibit %d: behind %d ticks: %v, want %v", inhibit, ticks, is, want)
			}
			if is {
				ticks, times = 0, times+1
			}
		}
		if times < 2 {
			t.Fatalf("inhibit %d: told %d times", inhibit, times)
		}
	}
}
