package lss

import (
	"slices"
	"testing"
)

// rows hands each row of so many of the acts to a slave of its own, against its clerk.
func rows(t *testing.T, long int, acts ...func(d *desk)) {
	n := 1
	for range long {
		n *= len(acts)
	}
	for n := range n {
		d := deskOf(t, own, 0)
		for range long {
			acts[n%len(acts)](d)
			n /= len(acts)
		}
	}
}

// takes are acts that hand a frame in each.
func takes(l ...[8]byte) []func(d *desk) {
	var acts []func(d *desk)
	for _, q := range l {
		acts = append(acts, func(d *desk) { d.take(q) })
	}
	return acts
}

// P19.1, P19.2: all rows of some calls about numbers against their clerks.
func TestAllNumbers(t *testing.T) {
	acts := takes(toWait, toSet, [8]byte{17, 5}, [8]byte{17, 255}, keep, who)
	rows(t, 6, append(acts, (*desk).restart)...)
}

// P19.1, P19.2: all rows of some calls about rates, and a store that fails.
func TestAllRates(t *testing.T) {
	acts := takes(toSet, [8]byte{19, 0, 3}, [8]byte{19, 0, 4}, useRates, keep)
	rows(t, 6, append(acts, (*desk).restart, func(d *desk) { d.store(!d.k.fails()) })...)
}

// P19.1, P19.2: all rows of some calls that select.
func TestAllSelections(t *testing.T) {
	acts := takes(selecting[0], selecting[1], selecting[2], selecting[3], frame(65, own[1]+1), toWait)
	rows(t, 6, append(acts, (*desk).restart)...)
}

// P19.1, P19.2: all rows of some questions of a scan.
func TestAllScans(t *testing.T) {
	acts := takes(scanAnew, ask(own[0], 0, 0, 1), ask(own[1], 0, 1, 2), ask(own[1], 0, 1, 0), ask(own[2], 7, 2, 0), ask(own[2], 0, 2, 0), toWait)
	rows(t, 5, append(acts, (*desk).restart)...)
}

// some is a frame that may do something, with a part of the slave's address or nearly that.
func (d *die) some(address [4]uint32) [8]byte {
	k := byte(d.below(4))
	switch d.below(16) {
	case 0:
		return [8]byte{4, byte(d.below(3))}
	case 1, 2:
		return toSet
	case 3:
		return toWait
	case 4:
		return [8]byte{17, byte(d.below(4) * 85)}
	case 5:
		return [8]byte{17, byte(d.next())}
	case 6:
		return [8]byte{19, byte(d.below(8) / 7), byte(d.below(10))}
	case 7:
		return [8]byte{byte(21 + d.below(3))}
	case 8:
		return [8]byte{90 + byte(d.below(5))}
	case 9:
		return who
	case 10, 11:
		return frame(64+k, d.near(address[k]))
	case 12:
		return ask(d.near(address[k]), byte(d.below(33)), k, byte(d.below(5)))
	case 13:
		return ask(address[k], 0, k, byte(d.below(4)))
	case 14:
		return scanAnew
	}
	n := d.next()
	q := frame(byte(n>>32), uint32(n))
	q[5], q[6], q[7] = byte(n>>40), byte(n>>48), byte(n>>56)
	return q
}

// address has parts some of which are alike.
func (d *die) address() [4]uint32 {
	var a [4]uint32
	for k := range a {
		a[k] = uint32(d.next()) >> d.below(33)
	}
	return a
}

// P19.1, P19.2: long runs of slaves against their clerks.
func TestRuns(t *testing.T) {
	r := dice(19)
	for range 400 {
		a := r.address()
		d := deskOf(t, a, r.below(2)*r.below(128))
		for range 120 {
			switch r.below(40) {
			case 0:
				d.restart()
			case 1:
				d.store(r.below(2) == 0)
			case 2:
				for k := range byte(4) {
					d.take(frame(64+k, a[k]))
				}
			case 3:
				for k := range byte(4) {
					d.take(ask(a[k], 0, k, (k+1)%4))
				}
			case 4:
				d.take(toSet, [8]byte{17, 255})
				d.restart()
			default:
				d.take(r.some(a))
			}
		}
	}
}

// P19.3: behind 64 to 67 of an address just the slaves of that address are in mode 1.
func TestNoneButTheOne(t *testing.T) {
	r := dice(193)
	for range 300 {
		base := r.address()
		var l []*Slave
		var as [][4]uint32
		for range 30 {
			a := base
			for k := range a {
				a[k] = r.near(a[k])
			}
			s, _ := New(a, r.below(3))
			for range r.below(4) {
				k := r.below(4)
				s.Take(frame(64+byte(k), a[k]))
			}
			s.Take(toWait)
			l, as = append(l, s), append(as, a)
		}
		one := as[r.below(len(as))]
		if r.below(10) == 0 {
			one[r.below(4)]++
		}
		for i, s := range l {
			answers := 0
			for k := range byte(4) {
				if a, is := s.Take(frame(64+k, one[k])); is && a == [8]byte{68} && k == 3 {
					answers++
				} else if is {
					t.Fatalf("%d: %v", k, a)
				}
			}
			if is := as[i] == one; (s.Mode() == 1) != is || (answers == 1) != is {
				t.Fatalf("%x selected, and of %x the mode is %d, %d answers", one, as[i], s.Mode(), answers)
			}
		}
	}
}

// P19.4: the number that it uses turns by 4 0 and Restart alone, and to one that was pending, if to one at all.
func TestItsNumber(t *testing.T) {
	r := dice(194)
	for range 500 {
		a := r.address()
		before := r.below(2) * 5
		s, _ := New(a, before)
		was := []int{before}
		for range 200 {
			q, again := r.some(a), r.below(30) == 0
			if again {
				s.Restart()
			} else {
				s.Take(q)
			}
			pending, used := s.ID()
			if used != before && !again && (q[0] != 4 || q[1] != 0) {
				t.Fatalf("%v: it uses %d", q, used)
			}
			if used != before && used != 0 && !slices.Contains(was, used) {
				t.Fatalf("%d was never pending", used)
			}
			if before != 0 && used != before && !again {
				t.Fatalf("%v: %d is lost", q, before)
			}
			was, before = append(was, pending), used
		}
	}
}

// P19.5: what was stored is used behind a Restart, whatever came between, stores that failed among it.
func TestStored(t *testing.T) {
	r := dice(195)
	for range 500 {
		a := r.address()
		s, _ := New(a, r.below(128))
		s.Take(toSet)
		id, rate := 1+r.below(127), r.below(5)
		s.Take([8]byte{17, byte(id)})
		s.Take([8]byte{19, 0, byte(rate)})
		s.Take(keep)
		s.Store(true)
		for range r.below(60) {
			s.Take(r.some(a))
			if i, j, is := s.Stored(); i != id || j != rate || !is {
				t.Fatalf("%d %d is stored, now %d %d %v", id, rate, i, j, is)
			}
		}
		s.Restart()
		pending, used := s.ID()
		next, now := s.Rate()
		if pending != id || used != id || next != rate || now != rate || s.Mode() != 0 {
			t.Fatalf("%d %d was stored: %d %d, %d %d", id, rate, pending, used, next, now)
		}
	}
}

// P19.6: one that waits takes none of 17, 19, 21, 23 and 90 to 94, however it came to wait.
func TestItWaits(t *testing.T) {
	r := dice(196)
	for range 500 {
		a := r.address()
		d := deskOf(t, a, r.below(2)*7)
		for range r.below(20) {
			d.take(r.some(a))
		}
		if r.below(2) == 0 {
			d.restart()
		}
		d.take(toWait)
		before := *d.s
		for _, c := range []byte{17, 19, 21, 23, 90, 91, 92, 93, 94} {
			d.wantTake([8]byte{c, byte(r.next()), byte(r.next())})
			d.wantTake([8]byte{c, 5})
			d.wantTake([8]byte{c})
		}
		if *d.s != before {
			t.Fatalf("%v: something changed", d.k.acts)
		}
	}
}
