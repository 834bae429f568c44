package scan

import (
	"slices"
	"testing"

	"tramway/api"
	"tramway/lss"
)

// mixed are slaves that had some frames already, and twins of them that had the same; some are alike, and some are there twice.
func (d *die) mixed(t *testing.T, as [][4]uint32) (l, twins []*lss.Slave) {
	for range d.below(12) {
		if len(l) > 0 && d.below(8) == 0 {
			i := d.below(len(l))
			l, twins = append(l, l[i]), append(twins, twins[i])
			continue
		}
		a, id := d.some(as), d.below(2)*d.below(128)
		two := slavesOf(t, [][4]uint32{a, a}, id, id)
		d.use(two, a)
		l, twins = append(l, two[0]), append(twins, two[1])
	}
	return l, twins
}

// use hands some frames to slaves of an address.
func (d *die) use(l []*lss.Slave, a [4]uint32) {
	for range d.below(6) {
		switch d.below(7) {
		case 0:
			handAll(l, scanAnew)
		case 1:
			part := d.below(4)
			handAll(l, ask(a[part], 0, byte(part), byte(d.below(4))))
		case 2:
			handAll(l, [8]byte{4, byte(d.below(2))})
		case 3:
			handAll(l, toSet, [8]byte{17, byte(d.below(128))}, keep, toWait)
		case 4:
			handAll(l, toSet, [8]byte{17, byte(d.below(128))})
		case 5:
			handAll(l, toSet, [8]byte{17, 255}, toWait)
		default:
			for _, s := range l {
				s.Restart()
			}
		}
	}
}

// P20.3: runs of All, of slaves in whatever states, against its steps by hand; also in what is to be seen of the slaves later.
func TestAllRuns(t *testing.T) {
	r := dice(2003)
	for range 1500 {
		as := r.addresses(1 + r.below(12))
		l, twins := r.mixed(t, as)
		for range 1 + r.below(3) {
			ids := r.ids(r.below(8))
			told, err := All(l, ids)
			want, e := allByHand(twins, ids)
			if err != e || !slices.Equal(told, want) {
				t.Fatalf("All of %d, %v: %x %d, want %x %d", len(l), ids, told, err, want, e)
			}
			for i := range l {
				if a, b := state(l[i]), state(twins[i]); a != b {
					t.Fatalf("slave %d: %s, want %s", i, a, b)
				}
			}
			sameLater(t, r, l, twins, as)
		}
	}
}

// sameLater hands the same frames to slaves and their twins.
func sameLater(t *testing.T, r *die, l, twins []*lss.Slave, as [][4]uint32) {
	t.Helper()
	for range r.below(6) {
		part := r.below(4)
		q := ask(r.some(as)[part], 0, byte(part), byte(r.below(4)))
		if r.below(4) == 0 {
			q = [8]byte{4, byte(r.below(2))}
		}
		for i := range l {
			a, is := l[i].Take(q)
			b, there := twins[i].Take(q)
			if a != b || is != there {
				t.Fatalf("slave %d takes %v: %v %v, want %v %v", i, q, a, is, b, there)
			}
		}
	}
}

// numbered are so many numbers of slaves, about half of them none; those that are come from given ones.
func (d *die) numbered(n int, from []int) []int {
	l := make([]int, n)
	for i := range l {
		if d.below(2) == 0 {
			l[i] = from[i]
		}
	}
	return l
}

// without are the addresses of those without a number, the least first.
func without(as [][4]uint32, ids []int) [][4]uint32 {
	var l [][4]uint32
	for i, a := range as {
		if ids[i] == 0 {
			l = append(l, a)
		}
	}
	slices.SortFunc(l, func(a, b [4]uint32) int { return slices.Compare(a[:], b[:]) })
	return l
}

// P20.4, P20.6: a scan finds the least address of those without a number with 133 questions, and just that one is in mode 1 then.
func TestLeast(t *testing.T) {
	r := dice(204)
	for range 1500 {
		n := 1 + r.below(20)
		as, ids := r.addresses(n), r.numbered(n, r.ids(n))
		l := slavesOf(t, as, ids...)
		for _, s := range l {
			s.Take(ask(r.some(as)[0], 0, 0, byte(r.below(4))))
		}
		s := New()
		for q, is := s.Ask(); is; q, is = s.Ask() {
			s.Answer(handAll(l, q))
		}
		want := without(as, ids)
		a, found := s.Found()
		if found != (len(want) > 0) || found && a != want[0] || !found && a != [4]uint32{} {
			t.Fatalf("%x, %v: %x %v", as, ids, a, found)
		}
		if found && s.Asked() != 133 || !found && s.Asked() != 1 {
			t.Fatalf("%v: %d questions", found, s.Asked())
		}
		for i, s := range l {
			p, u := s.ID()
			if (s.Mode() == 1) != (found && as[i] == a) || p != ids[i] || u != ids[i] {
				t.Fatalf("%x is found, and of %x the mode is %d, the number %d %d", a, as[i], s.Mode(), p, u)
			}
		}
	}
}

// P20.5: All, with enough numbers, gives each one without a number one of them, in the order of their addresses, and changes no other's; with too few the least addresses have them.
func TestAllOfThem(t *testing.T) {
	r := dice(205)
	for range 600 {
		n := r.below(30)
		given := r.ids(n + r.below(20))
		as, ids := r.addresses(n), r.numbered(n, given)
		l := slavesOf(t, as, ids...)
		want := without(as, ids)
		enough := r.below(4) > 0
		few := len(given)
		if !enough {
			few = r.below(len(want) + 1)
			enough = few == len(want)
		}
		told, err := All(l, given[:few])
		if enough && err != ok || !enough && err != errNone || !slices.Equal(told, want[:min(few, len(want))]) {
			t.Fatalf("%x, %v, %v: %x %d", as, ids, given[:few], told, err)
		}
		for i, s := range l {
			id := ids[i]
			if k := slices.Index(told, as[i]); k >= 0 {
				id = given[k]
			}
			wantIDs(t, []*lss.Slave{s}, id)
		}
	}
}

// P20.7: it does not matter in which order slaves of different addresses take.
func TestWhicheverOrder(t *testing.T) {
	r := dice(207)
	for range 400 {
		n := 1 + r.below(20)
		as, ids := r.addresses(n), r.numbered(n, r.ids(n))
		given := r.ids(r.below(n + 3))
		order := r.shuffled(n)
		one, other := slavesOf(t, as, ids...), make([]*lss.Slave, n)
		for i, s := range slavesOf(t, as, ids...) {
			other[order[i]] = s
		}
		a, err := All(one, given)
		b, e := All(other, given)
		if err != e || !slices.Equal(a, b) {
			t.Fatalf("%x %d, and in another order %x %d", a, err, b, e)
		}
		for i := range n {
			if x, y := state(one[i]), state(other[order[i]]); x != y {
				t.Fatalf("%x: %s, and in another order %s", as[i], x, y)
			}
		}
	}
}

// P20.8: behind All, of slaves of different addresses and numbers, none of which is one of ids, no two have one number.
func TestNoNumberTwice(t *testing.T) {
	r := dice(208)
	for range 400 {
		n := 1 + r.below(30)
		numbers := r.ids(127)
		as := r.addresses(n)
		l := slavesOf(t, as, r.numbered(n, numbers[:n])...)
		left := numbers[n:]
		if r.below(2) == 0 {
			left = left[:r.below(n)]
		}
		_, err := All(l, left)
		var used []int
		for i, s := range l {
			_, u := s.ID()
			if u == 0 && err == api.OK || u != 0 && slices.Contains(used, u) {
				t.Fatalf("%x has the number %d of %v: %d", as[i], u, used, err)
			}
			used = append(used, u)
		}
	}
}
