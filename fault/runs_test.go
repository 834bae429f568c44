package fault

import (
	"testing"

	"tramway/api"
)

// story is a unit written otherwise: no state is kept but the calls that were made, and each question goes through all of them.
type story []deed

type deed struct {
	what byte // s, r, F (aloud), f (quietly), E (late), e, i (idle), 0 (reset)
	n    int
}

type told struct {
	sending, receiving, rows int
	off, back                bool
}

func (l story) told() told {
	var is told
	for _, d := range l {
		is.back = false
		if is.off {
			is = whileOff(is, d)
		} else {
			is = onTheBus(is, d)
		}
		if d.what == '0' {
			is = told{}
		}
	}
	return is
}

func whileOff(is told, d deed) told {
	if d.what != 'i' || d.n < 1 {
		return is
	}
	for range min(d.n, 200) {
		if is.rows++; is.rows == 128 {
			return told{back: true}
		}
	}
	return is
}

func onTheBus(is told, d deed) told {
	passive := is.sending >= 128 || is.receiving >= 128
	switch {
	case d.what == 's' && is.sending != 0:
		is.sending--
	case d.what == 'r' && is.receiving >= 128:
		is.receiving = 120
	case d.what == 'r' && is.receiving != 0:
		is.receiving--
	case d.what == 'F', d.what == 'f' && !passive:
		is.sending += 8
	case d.what == 'e' && is.receiving < 255:
		is.receiving++
	case d.what == 'E' && is.receiving < 248:
		is.receiving += 8
	case d.what == 'E':
		is.receiving = 255
	}
	if is.sending >= 256 {
		is.sending, is.off, is.rows = 256, true, 0
	}
	return is
}

func (d deed) on(u *Unit) bool {
	switch d.what {
	case 's':
		u.Sent()
	case 'r':
		u.Received()
	case 'F', 'f':
		u.Failed(d.what == 'f')
	case 'E', 'e':
		u.Erred(d.what == 'E')
	case 'i':
		return u.Idle(d.n)
	case '0':
		u.Reset()
	}
	return false
}

// P3.1, P3.2: many runs of calls, held against the story; each kind of run leans on other calls.
func TestRuns(t *testing.T) {
	d := dice(7)
	var seen [3]int
	for _, kind := range []string{"srFfEei", "FFFFiis", "FFFFFFFiiiiiiE0", "EEEEeerf", "fffEErs", "FFssssssssss", "srFfEei0"} {
		for range 20 {
			u, l := New(), story{}
			for step := range 300 {
				next := deed{kind[d.below(len(kind))], d.below(50) - 5}
				l = append(l, next)
				back := next.on(u)
				is := l.told()
				counts(t, u, is.sending, is.receiving)
				state := api.Active
				if is.off {
					state = api.Off
				} else if is.sending >= 128 || is.receiving >= 128 {
					state = api.Passive
				}
				warns := is.off || is.sending >= 96 || is.receiving >= 96
				if back != is.back || u.State() != state || u.Warns() != warns {
					t.Fatal(kind, step, next, back, u.State(), u.Warns())
				}
				seen[state]++
			}
		}
	}
	for state, n := range seen {
		if n < 100 {
			t.Error("the runs hardly come to state", state)
		}
	}
}
