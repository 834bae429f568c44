package scan

import (
	"slices"
	"testing"

	"tramway/lss"
)

// P20.3: the least address is found first, and given the first number.
func TestAll(t *testing.T) {
	as := [][4]uint32{{1, 2, 3, 5}, {1, 2, 3, 4}, {0, 1 << 31, 7, 7}, {9, 9, 9, 9}}
	l := slavesOf(t, as, 0, 0, 0, 3)
	wantAll(t, l, []int{10, 20, 5, 1}, ok, as[2], as[1], as[0])
	wantIDs(t, l, 5, 20, 10, 3)
	wantAll(t, l, []int{99}, ok)
	wantIDs(t, l, 5, 20, 10, 3)
}

// P20.3: just enough numbers; one or more too few, which go to the least addresses.
func TestAllTooFew(t *testing.T) {
	as := [][4]uint32{{3}, {1}, {2}}
	for _, x := range []struct {
		ids  []int
		told int
		want []int
	}{{[]int{7, 8, 9}, 3, []int{9, 7, 8}}, {[]int{7, 8}, 2, []int{0, 7, 8}}, {[]int{7}, 1, []int{0, 7, 0}}, {nil, 0, []int{0, 0, 0}}, {[]int{}, 0, []int{0, 0, 0}}} {
		l := slavesOf(t, as)
		err := errNone
		if x.told == 3 {
			err = ok
		}
		wantAll(t, l, x.ids, err, [][4]uint32{{1}, {2}, {3}}[:x.told]...)
		wantIDs(t, l, x.want...)
	}
}

// P20.3: no slaves, and none without a number.
func TestAllNobody(t *testing.T) {
	for _, ids := range [][]int{nil, {5}, {127, 1}} {
		wantAll(t, nil, ids, ok)
		wantAll(t, []*lss.Slave{}, ids, ok)
		l := slavesOf(t, [][4]uint32{{1}, {2}}, 5, 127)
		wantAll(t, l, ids, ok)
		wantIDs(t, l, 5, 127)
	}
}

// P20.3: each number may be given, in whatever order the numbers are.
func TestAllNumbers(t *testing.T) {
	for id := 1; id <= 127; id++ {
		l := slavesOf(t, [][4]uint32{{1, 2, 3, 4}})
		wantAll(t, l, []int{id}, ok, [4]uint32{1, 2, 3, 4})
		wantIDs(t, l, id)
	}
	var as [][4]uint32
	var ids []int
	for i := range 127 {
		as, ids = append(as, [4]uint32{5, uint32(i) << 16}), append(ids, 127-i)
	}
	l := slavesOf(t, as)
	wantAll(t, l, ids, ok, as...)
	wantIDs(t, l, ids...)
}

// wantArg: All refuses, and no slave took anything.
func wantArg(t *testing.T, l []*lss.Slave, ids []int, want int) {
	t.Helper()
	there := slices.DeleteFunc(slices.Clone(l), func(s *lss.Slave) bool { return s == nil })
	// Each looks for part 2 ahead, so that a scan that began would be seen.
	handAll(there, scanAnew)
	for _, s := range there {
		s.Take(ask(9, 0, 0, 2))
	}
	if told, err := All(l, ids); len(told) != 0 || int(err) != want {
		t.Fatalf("All of %d slaves, %v: %x %d, want %d", len(l), ids, told, err, want)
	}
	for _, s := range there {
		if _, is := s.Take(ask(0, 31, 2, 2)); !is || state(s) != "0 0 0 0 0 0 0 false" {
			t.Fatalf("All of %d slaves, %v: %d, but a slave took something", len(l), ids, want)
		}
	}
}

// P20.3: a slave that is nil, at each place, and numbers that are none, or are there twice.
func TestAllArg(t *testing.T) {
	as := [][4]uint32{{9, 9, 1}, {9, 9, 2}, {9, 9, 3}}
	for i := range 3 {
		l := slavesOf(t, as)
		l[i] = nil
		wantArg(t, l, []int{1, 2, 3}, 1)
		wantArg(t, l, nil, 1)
	}
	wantArg(t, []*lss.Slave{nil}, []int{5}, 1)
	for _, bad := range badNumbers {
		for i := range 4 {
			wantArg(t, slavesOf(t, as), slices.Insert([]int{1, 64, 127}, i, bad), 1)
		}
		wantArg(t, nil, []int{bad}, 1)
	}
	for i := range 4 {
		for k := range i {
			ids := []int{1, 64, 127, 100}
			ids[i] = ids[k]
			wantArg(t, slavesOf(t, as), ids, 1)
		}
	}
	wantArg(t, nil, []int{5, 5}, 1)
	ids := dice(203).ids(127)
	wantArg(t, slavesOf(t, as), append(ids, 77), 1)
}

// P20.3: 127 slaves are not too many; 128 are, be they one, but what is ErrArg is that ahead of it.
func TestAllLong(t *testing.T) {
	var as [][4]uint32
	for i := range 128 {
		as = append(as, [4]uint32{9, 9, uint32(i)})
	}
	wantArg(t, slavesOf(t, as), []int{1}, 2)
	wantArg(t, slavesOf(t, as), nil, 2)
	wantArg(t, slavesOf(t, append(as, as...)), dice(204).ids(127), 2)
	wantAll(t, slices.Repeat(slavesOf(t, as[:1], 5), 128), []int{1}, errLong)
	wantAll(t, slavesOf(t, as[:127]), []int{1}, errNone, as[0])
	for _, ids := range [][]int{{0}, {128}, {5, 5}} {
		wantArg(t, slavesOf(t, as), ids, 1)
	}
	l := slavesOf(t, as)
	l[127] = nil
	wantArg(t, l, []int{1}, 1)
}

// P20.3: the further scan's first frame goes to all slaves, also behind one that answers.
func TestAllFurther(t *testing.T) {
	as := [][4]uint32{{1}, {2}, {3}}
	l := slavesOf(t, as)
	for i, s := range l {
		s.Take(ask(as[i][0], 0, 0, 2))
	}
	wantAll(t, l, nil, errNone)
	for i, s := range l {
		if _, is := s.Take(ask(as[i][0], 0, 0, 1)); !is {
			t.Errorf("slave %d did not take the first frame", i)
		}
	}
}

// P20.3: what is told to one goes to all: one that is configured already is given each number, too, and waits then.
func TestAllConfigured(t *testing.T) {
	l := slavesOf(t, [][4]uint32{{1}, {2}, {3}, {4}}, 0, 0, 0, 9)
	l[0].Take(toSet)
	l[3].Take(toSet)
	wantAll(t, l, []int{5, 6, 7}, ok, [4]uint32{2}, [4]uint32{3})
	for i, want := range [][2]int{{5, 5}, {5, 5}, {6, 6}, {5, 9}} {
		if p, u := l[i].ID(); [2]int{p, u} != want || l[i].Mode() != 0 {
			t.Errorf("slave %d: %d %d, mode %d", i, p, u, l[i].Mode())
		}
	}
	// Where none is found, nothing is told to it.
	l = slavesOf(t, [][4]uint32{{1}, {2}}, 0, 9)
	handAll(l, toSet)
	wantAll(t, l, []int{5}, ok)
	wantAll(t, l, nil, ok)
	for i, want := range []int{0, 9} {
		if p, u := l[i].ID(); p != want || u != want || l[i].Mode() != 1 {
			t.Errorf("slave %d: %d %d, mode %d", i, p, u, l[i].Mode())
		}
	}
}

// P20.3: slaves of one address are found as one; one that is there twice is found once.
func TestAllAlike(t *testing.T) {
	l := slavesOf(t, [][4]uint32{{1, 2}, {1, 2}, {1, 1}})
	wantAll(t, l, []int{5, 6, 7}, ok, [4]uint32{1, 1}, [4]uint32{1, 2})
	wantIDs(t, l, 6, 6, 5)
	l = slavesOf(t, [][4]uint32{{1, 2, 3, 4}, {1, 2, 3, 5}})
	l = append(l, l...)
	wantAll(t, l, []int{5, 6, 7}, ok, [4]uint32{1, 2, 3, 4}, [4]uint32{1, 2, 3, 5})
	wantIDs(t, l, 5, 6, 5, 6)
}

// P20.3: numbers are given, but not stored, and no rate is.
func TestAllStoresNothing(t *testing.T) {
	l := slavesOf(t, [][4]uint32{{1}, {2}})
	wantAll(t, l, []int{5, 6}, ok, [4]uint32{1}, [4]uint32{2})
	for i, want := range []string{"0 5 5 0 0 0 0 false", "0 6 6 0 0 0 0 false"} {
		if s := state(l[i]); s != want {
			t.Errorf("slave %d: %s", i, s)
		}
	}
}

// Memory: neither list is changed or kept, and what is told is new.
func TestMemory(t *testing.T) {
	as := [][4]uint32{{3}, {1}, {2}}
	l := slices.Grow(slavesOf(t, as), 5)
	ids := append(make([]int, 0, 9), 30, 10, 20)
	spare, more := l[:cap(l)], ids[:cap(ids)]
	keptL, keptIDs := slices.Clone(spare), slices.Clone(more)
	first, err := All(l, ids)
	if err != ok || !slices.Equal(spare, keptL) || !slices.Equal(more, keptIDs) {
		t.Fatalf("%d: %v, %v", err, spare, more)
	}
	clear(spare[:3])
	clear(more)
	m := slavesOf(t, as)
	second, _ := All(m, []int{1, 2, 3})
	for _, told := range [][][4]uint32{first, second} {
		if !slices.Equal(told, [][4]uint32{{1}, {2}, {3}}) {
			t.Fatalf("%x", told)
		}
		clear(told[:cap(told)])
	}
	third, err := All(m, nil)
	if len(third) != 0 || err != ok {
		t.Fatalf("%x %d", third, err)
	}
}
