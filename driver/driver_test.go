package driver

import (
	"math"
	"slices"
	"testing"

	"tramway/api"
)

// P5.1: boxes and room are from 1 to 64 each, and a driver has just so many.
func TestNewSizes(t *testing.T) {
	sizes := []int{math.MinInt, -1, 0, 1, 2, 63, 64, 65, 128, math.MaxInt}
	for _, boxes := range sizes {
		for _, room := range sizes {
			fits := boxes >= 1 && boxes <= 64 && room >= 1 && room <= 64
			d, err := New(boxes, room, nil)
			if fits != (err == api.OK) || fits != (d != nil) || !fits && err != api.ErrArg {
				t.Errorf("New(%d, %d): %v %d", boxes, room, d, err)
			}
			if d != nil {
				wantHas(t, d, 0, 0, 0)
			}
		}
	}
}

// P5.1, P5.6: so many mailboxes, and so much room, and not one more.
func TestNewHasSoMany(t *testing.T) {
	for n := 1; n <= 64; n++ {
		d := made(t, n, 65-n)
		for i := range n {
			wantSend(t, d, base(uint32(i), 0), i+1, api.OK)
		}
		wantSend(t, d, base(0, 0), 0, api.ErrBusy)
		for i := range 65 - n {
			wantErr(t, d.Take(base(uint32(i), 0)), api.OK)
		}
		wantErr(t, d.Take(base(0, 0)), api.ErrOverrun)
		wantHas(t, d, n, 65-n, 1)
	}
}

// P5.1: at most 32 filters; of a wrong number of boxes it is told first.
func TestNewFilters(t *testing.T) {
	for _, n := range []int{0, 1, 31, 32} {
		made(t, 1, 1, make([]api.Filter, n)...)
	}
	tooMany := []struct {
		boxes, room, filters int
		want                 api.Errno
	}{
		{1, 1, 33, api.ErrLong},
		{64, 64, 1000, api.ErrLong},
		{0, 1, 33, api.ErrArg},
		{1, 0, 33, api.ErrArg},
		{65, 1, 33, api.ErrArg},
		{1, 65, 33, api.ErrArg},
	}
	for _, c := range tooMany {
		d, err := New(c.boxes, c.room, make([]api.Filter, c.filters))
		if d != nil || err != c.want {
			t.Errorf("New(%d, %d, %d filters): %v %d, want %d", c.boxes, c.room, c.filters, d, err, c.want)
		}
	}
}

// P5.1: the last of 32 filters counts as the first does.
func TestLastFilter(t *testing.T) {
	l := make([]api.Filter, 32)
	for i := range l {
		l[i] = api.Filter{ID: uint32(i), Mask: 1<<32 - 1}
	}
	d := made(t, 1, 1, l...)
	for i := range uint32(40) {
		wantIs(t, "Passes", d.Passes(api.Frame{ID: i}), i < 32)
	}
}

// P5.1: without filters all passes that can be.
func TestPassesWithoutFilters(t *testing.T) {
	for _, d := range []*Driver{made(t, 1, 1), made(t, 1, 1, []api.Filter{}...)} {
		for _, f := range []api.Frame{{}, {ID: 2047}, {ID: 2047, Remote: true, Len: 15}, {ID: 1<<29 - 1, Extended: true}, {Extended: true, Len: 8}} {
			wantIs(t, "Passes", d.Passes(f), true)
		}
	}
}

// P5.1: one filter: the ID where the mask has ones, and Extended; nothing else of a frame.
func TestPassesOne(t *testing.T) {
	const ones = 1<<32 - 1
	l := []struct {
		filter api.Filter
		frame  api.Frame
		want   bool
	}{
		{api.Filter{ID: 4, Mask: 6}, api.Frame{ID: 4}, true},
		{api.Filter{ID: 4, Mask: 6}, api.Frame{ID: 5}, true},
		{api.Filter{ID: 5, Mask: 6}, api.Frame{ID: 4}, true},
		{api.Filter{ID: 4, Mask: 6}, api.Frame{ID: 6}, false},
		{api.Filter{ID: 4, Mask: 6}, api.Frame{ID: 0}, false},
		{api.Filter{ID: 4, Mask: 6}, api.Frame{ID: 2044}, true},
		{api.Filter{ID: 4, Mask: 6}, api.Frame{ID: 4, Extended: true}, false},
		{api.Filter{ID: 4, Mask: 6, Extended: true}, api.Frame{ID: 4, Extended: true}, true},
		{api.Filter{ID: 4, Mask: 6, Extended: true}, api.Frame{ID: 4}, false},
		{api.Filter{ID: 4, Mask: 6, Extended: true}, api.Frame{ID: 1<<29 - 4, Extended: true}, true},
		{api.Filter{ID: 77}, api.Frame{}, true},
		{api.Filter{ID: ones}, api.Frame{ID: 2047, Remote: true, Len: 15}, true},
		{api.Filter{}, api.Frame{Extended: true}, false},
		{api.Filter{ID: ones, Extended: true}, api.Frame{ID: 3, Extended: true}, true},
		{api.Filter{ID: ones, Extended: true}, api.Frame{ID: 3}, false},
		{api.Filter{ID: 9, Mask: ones}, api.Frame{ID: 9, Len: 8, Data: [8]byte{1}}, true},
		{api.Filter{ID: 9, Mask: ones}, api.Frame{ID: 9, Remote: true}, true},
		{api.Filter{ID: 9, Mask: ones}, api.Frame{ID: 8}, false},
		{api.Filter{ID: 9, Mask: ones}, api.Frame{ID: 9 + 1024}, false},
		{api.Filter{ID: 1<<29 - 1, Mask: ones, Extended: true}, api.Frame{ID: 1<<29 - 1, Extended: true}, true},
		{api.Filter{ID: 1<<29 - 1, Mask: ones, Extended: true}, api.Frame{ID: 1<<28 - 1, Extended: true}, false},
		// No frame's ID has the bit that these ask for.
		{api.Filter{ID: 1 << 11, Mask: 1 << 11}, api.Frame{}, false},
		{api.Filter{ID: 1 << 31, Mask: 1 << 31, Extended: true}, api.Frame{Extended: true}, false},
		{api.Filter{ID: 1 << 31, Mask: 1 << 30, Extended: true}, api.Frame{Extended: true}, true},
	}
	for _, c := range l {
		if got := made(t, 1, 1, c.filter).Passes(c.frame); got != c.want {
			t.Errorf("filter %v, frame %v: %v", c.filter, c.frame, got)
		}
	}
}

// P5.1: what can't be never passes, with whatever filters.
func TestPassesBad(t *testing.T) {
	drivers := []*Driver{
		made(t, 1, 1),
		made(t, 1, 1, api.Filter{}),
		made(t, 1, 1, api.Filter{Extended: true}),
		made(t, 1, 1, api.Filter{}, api.Filter{Extended: true}, api.Filter{ID: 5, Mask: 2047}),
		made(t, 1, 1, api.Filter{ID: 1 << 11, Mask: 1<<32 - 1}),
	}
	for _, d := range drivers {
		for _, f := range badFrames {
			wantIs(t, "Passes", d.Passes(f), false)
		}
		wantHas(t, d, 0, 0, 0)
	}
}

// The rule on memory: a driver keeps nothing of the list of its filters, and leaves it and its spare room alone.
func TestFiltersAreCopied(t *testing.T) {
	whole := []api.Filter{{ID: 5, Mask: 2047}, {ID: 6, Mask: 2047}, {ID: 7, Mask: 2047}}
	before := slices.Clone(whole)
	d := made(t, 1, 1, whole[:2]...)
	if !slices.Equal(whole, before) {
		t.Errorf("filters changed: %v", whole)
	}
	whole[0], whole[1] = api.Filter{}, api.Filter{}
	for id := range uint32(10) {
		wantIs(t, "Passes", d.Passes(api.Frame{ID: id}), id == 5 || id == 6)
	}
}

// The chapter's example.
func TestExample(t *testing.T) {
	d := made(t, 64, 1)
	wantSend(t, d, base(9, 1), 1, api.OK)
	wantSend(t, d, base(5, 2), 2, api.OK)
	wantSend(t, d, base(9, 3), 3, api.OK)
	wantNext(t, d, base(5, 2))
	wantIs(t, "Done", d.Done(), true)
	wantNext(t, d, base(9, 1))
	wantOut(t, d, base(9, 1), base(9, 3))
}

// P5.2, P5.4: base and extended ones, data and remote, in the order of their fields, however they are sent.
func TestOrderOfFields(t *testing.T) {
	order := []api.Frame{
		{ID: 0, Len: 3, Data: [8]byte{9, 9, 9}},
		{ID: 0, Remote: true, Len: 3},
		{ID: 0, Extended: true},
		{ID: 0, Extended: true, Remote: true},
		{ID: 1, Extended: true},
		{ID: 99},
		{ID: 100},
		{ID: 100, Remote: true},
		{ID: 100 << 18, Extended: true},
		{ID: 100 << 18, Extended: true, Remote: true},
		{ID: 100<<18 + 1, Extended: true},
		{ID: 101<<18 - 1, Extended: true},
		{ID: 101},
		{ID: 2047},
		{ID: 2047, Remote: true},
		{ID: 2047 << 18, Extended: true},
		{ID: 1<<29 - 1, Extended: true},
		{ID: 1<<29 - 1, Extended: true, Remote: true},
	}
	// A step that is prime to their number goes through all of them.
	for _, step := range []int{1, 5, 7, 11, 13, len(order) - 1} {
		for from := range order {
			d := made(t, len(order), 1)
			for i := range order {
				wantSend(t, d, order[(from+i*step)%len(order)], i+1, api.OK)
			}
			wantOut(t, d, order...)
		}
	}
}

// P5.2, P5.4: of one field it is the ticket that counts, not what the frame says.
func TestOrderOfTickets(t *testing.T) {
	d := made(t, 64, 1)
	var l []api.Frame
	for i := range 64 {
		f := api.Frame{ID: 7, Len: (64 - i) % 9, Data: [8]byte{byte(100 - i)}}
		if f.Len == 0 {
			f.Data[0] = 0
		}
		l = append(l, f)
		wantSend(t, d, f, i+1, api.OK)
	}
	wantOut(t, d, l...)
	// Tickets of more digits are no less.
	for i := range 3 {
		wantSend(t, d, base(7, byte(i)), 65+i, api.OK)
	}
	wantOut(t, d, base(7, 0), base(7, 1), base(7, 2))
}

// P5.2: a ticket for each that was taken, and none for what was refused; they go on counting.
func TestTickets(t *testing.T) {
	d := made(t, 2, 1)
	wantSend(t, d, badFrames[0], 0, api.ErrArg)
	wantSend(t, d, base(3, 0), 1, api.OK)
	wantSend(t, d, badFrames[5], 0, api.ErrArg)
	wantSend(t, d, base(2, 0), 2, api.OK)
	wantSend(t, d, base(1, 0), 0, api.ErrBusy)
	wantSend(t, d, base(1, 0), 0, api.ErrBusy)
	wantNext(t, d, base(2, 0))
	d.Done()
	wantSend(t, d, base(1, 0), 3, api.OK)
	wantIs(t, "Drop", d.Drop(1), true)
	wantSend(t, d, base(4, 0), 4, api.OK)
	wantOut(t, d, base(1, 0), base(4, 0))
	wantSend(t, d, base(4, 0), 5, api.OK)
	wantIs(t, "Drop", d.Drop(5), true)
	wantSend(t, d, base(4, 0), 6, api.OK)
	wantHas(t, d, 1, 0, 0)
}

// P5.2: a bad frame is told ahead of full mailboxes; neither changes anything.
func TestSendFull(t *testing.T) {
	d := made(t, 1, 1)
	wantSend(t, d, base(9, 1), 1, api.OK)
	for _, f := range badFrames {
		wantSend(t, d, f, 0, api.ErrArg)
	}
	wantSend(t, d, base(1, 0), 0, api.ErrBusy)
	wantHas(t, d, 1, 0, 0)
	wantOut(t, d, base(9, 1))
	wantSend(t, d, base(1, 0), 2, api.OK)
}

// P5.2, P5.3: what went in comes out Plain.
func TestPlain(t *testing.T) {
	full := [8]byte{1, 2, 3, 4, 5, 6, 7, 8}
	l := []struct{ in, out api.Frame }{
		{api.Frame{ID: 1, Data: full}, api.Frame{ID: 1}},
		{api.Frame{ID: 2, Len: 3, Data: full}, api.Frame{ID: 2, Len: 3, Data: [8]byte{1, 2, 3}}},
		{api.Frame{ID: 3, Len: 8, Data: full}, api.Frame{ID: 3, Len: 8, Data: full}},
		{api.Frame{ID: 4, Len: 15, Data: full}, api.Frame{ID: 4, Len: 15, Data: full}},
		{api.Frame{ID: 5, Remote: true, Len: 8, Data: full}, api.Frame{ID: 5, Remote: true, Len: 8}},
		{api.Frame{ID: 6 << 18, Extended: true, Len: 1, Data: full}, api.Frame{ID: 6 << 18, Extended: true, Len: 1, Data: [8]byte{1}}},
	}
	d := made(t, len(l), len(l))
	for i, c := range l {
		wantSend(t, d, c.in, i+1, api.OK)
		wantErr(t, d.Take(c.in), api.OK)
	}
	for _, c := range l {
		wantNext(t, d, c.out)
		d.Done()
		wantFetch(t, d, c.out)
	}
}

// P5.2: Next takes nothing out, and a frame that comes first is told at once.
func TestNextLooks(t *testing.T) {
	d := made(t, 3, 1)
	wantNext(t, d)
	wantSend(t, d, base(9, 0), 1, api.OK)
	wantNext(t, d, base(9, 0))
	wantNext(t, d, base(9, 0))
	wantSend(t, d, base(10, 0), 2, api.OK)
	wantNext(t, d, base(9, 0))
	wantSend(t, d, base(8, 0), 3, api.OK)
	wantNext(t, d, base(8, 0))
	wantHas(t, d, 3, 0, 0)
	// A zero frame that is there is told from none.
	wantIs(t, "Done", d.Done(), true)
	wantSend(t, d, api.Frame{}, 4, api.OK)
	wantNext(t, d, api.Frame{})
}

// P5.2: Next, Done and Drop with nothing there.
func TestNothingThere(t *testing.T) {
	d := made(t, 1, 1)
	for range 3 {
		wantOut(t, d)
		wantFetch(t, d)
		for _, ticket := range []int{math.MinInt, -1, 0, 1, 2, math.MaxInt} {
			wantIs(t, "Drop", d.Drop(ticket), false)
		}
		wantHas(t, d, 0, 0, 0)
	}
	wantSend(t, d, base(1, 0), 1, api.OK)
}

// P5.2: Drop takes out the one of its ticket, wherever it lies, once.
func TestDrop(t *testing.T) {
	ids := []uint32{50, 20, 40, 20, 10, 30, 60, 5, 70}
	for out := 1; out <= len(ids); out++ {
		d := made(t, len(ids), 1)
		var rest []api.Frame
		for i, id := range ids {
			wantSend(t, d, base(id, byte(i)), i+1, api.OK)
			if i+1 != out {
				rest = append(rest, base(id, byte(i)))
			}
		}
		wantIs(t, "Drop", d.Drop(0), false)
		wantIs(t, "Drop", d.Drop(-out), false)
		wantIs(t, "Drop", d.Drop(len(ids)+1), false)
		wantHas(t, d, len(ids), 0, 0)
		wantIs(t, "Drop", d.Drop(out), true)
		wantIs(t, "Drop", d.Drop(out), false)
		wantHas(t, d, len(ids)-1, 0, 0)
		slices.SortStableFunc(rest, func(a, b api.Frame) int { return int(a.ID) - int(b.ID) })
		wantOut(t, d, rest...)
	}
}

// P5.2: a ticket that is done is no more, and one that is given later is another.
func TestDropDone(t *testing.T) {
	d := made(t, 2, 1)
	wantSend(t, d, base(5, 0), 1, api.OK)
	wantSend(t, d, base(6, 0), 2, api.OK)
	d.Done()
	wantIs(t, "Drop", d.Drop(1), false)
	wantSend(t, d, base(5, 0), 3, api.OK)
	wantIs(t, "Drop", d.Drop(1), false)
	wantIs(t, "Drop", d.Drop(2), true)
	wantOut(t, d, base(5, 0))
	wantIs(t, "Drop", d.Drop(3), false)
}

// P5.3, P5.5: what came is fetched in its order, whatever the IDs, while more comes.
func TestTakeAndFetch(t *testing.T) {
	d := made(t, 1, 3)
	wantErr(t, d.Take(base(9, 0)), api.OK)
	wantErr(t, d.Take(base(5, 1)), api.OK)
	wantHas(t, d, 0, 2, 0)
	wantFetch(t, d, base(9, 0))
	wantErr(t, d.Take(base(9, 2)), api.OK)
	wantErr(t, d.Take(api.Frame{}), api.OK)
	wantHas(t, d, 0, 3, 0)
	wantFetch(t, d, base(5, 1))
	wantFetch(t, d, base(9, 2))
	wantFetch(t, d, api.Frame{})
	wantFetch(t, d)
	wantHas(t, d, 0, 0, 0)
}

// P5.3, P5.6: the last place, and the one beyond it: what is lost is counted, and those ahead stay.
func TestOverrun(t *testing.T) {
	for _, room := range []int{1, 2, 64} {
		d := made(t, 1, room)
		for i := range room {
			wantErr(t, d.Take(base(7, byte(i))), api.OK)
			wantHas(t, d, 0, i+1, 0)
		}
		for i := range 70 {
			wantErr(t, d.Take(base(7, 200)), api.ErrOverrun)
			wantHas(t, d, 0, room, i+1)
		}
		wantFetch(t, d, base(7, 0))
		wantErr(t, d.Take(base(7, 201)), api.OK)
		wantErr(t, d.Take(base(7, 202)), api.ErrOverrun)
		for i := 1; i < room; i++ {
			wantFetch(t, d, base(7, byte(i)))
		}
		wantFetch(t, d, base(7, 201))
		wantFetch(t, d)
		// Fetching brings nothing back.
		wantHas(t, d, 0, 0, 71)
	}
}

// P5.3: a bad frame, one that does not pass, one without room: told in this order, and only the last one is lost.
func TestTakeRefused(t *testing.T) {
	d := made(t, 1, 1, api.Filter{ID: 5, Mask: 2047}, api.Filter{})
	strict := made(t, 1, 1, api.Filter{ID: 5, Mask: 2047})
	for _, full := range []int{0, 1} {
		for _, f := range badFrames {
			wantErr(t, d.Take(f), api.ErrArg)
			wantErr(t, strict.Take(f), api.ErrArg)
		}
		wantErr(t, d.Take(api.Frame{ID: 5, Extended: true}), api.ErrNone)
		wantErr(t, strict.Take(base(6, 0)), api.ErrNone)
		wantHas(t, d, 0, full, 0)
		wantHas(t, strict, 0, full, 0)
		if full == 0 {
			wantErr(t, d.Take(base(6, 0)), api.OK)
			wantErr(t, strict.Take(base(5, 0)), api.OK)
		}
	}
	wantErr(t, d.Take(base(5, 0)), api.ErrOverrun)
	wantErr(t, strict.Take(base(5, 0)), api.ErrOverrun)
	wantHas(t, d, 0, 1, 1)
	wantHas(t, strict, 0, 1, 1)
	wantFetch(t, d, base(6, 0))
	wantFetch(t, strict, base(5, 0))
}

// P5.2, P5.3: the two sides know nothing of one another: filters don't hold back what is sent, and full mailboxes not what comes.
func TestTwoSides(t *testing.T) {
	d := made(t, 1, 1, api.Filter{ID: 5, Mask: 2047})
	wantSend(t, d, base(6, 0), 1, api.OK)
	wantErr(t, d.Take(base(5, 1)), api.OK)
	wantSend(t, d, base(5, 2), 0, api.ErrBusy)
	wantErr(t, d.Take(base(5, 3)), api.ErrOverrun)
	wantHas(t, d, 1, 1, 1)
	wantOut(t, d, base(6, 0))
	wantHas(t, d, 0, 1, 1)
	wantFetch(t, d, base(5, 1))
	wantHas(t, d, 0, 0, 1)
}

// The rule on objects: two drivers know nothing of one another.
func TestTwoDrivers(t *testing.T) {
	a, b := made(t, 2, 2), made(t, 2, 2)
	wantSend(t, a, base(1, 0), 1, api.OK)
	wantSend(t, a, base(2, 0), 2, api.OK)
	wantErr(t, a.Take(base(3, 0)), api.OK)
	wantHas(t, b, 0, 0, 0)
	wantSend(t, b, base(4, 0), 1, api.OK)
	wantOut(t, a, base(1, 0), base(2, 0))
	wantOut(t, b, base(4, 0))
	wantFetch(t, b)
	wantFetch(t, a, base(3, 0))
}

// The rule on what is kept: of a frame that is out, or was fetched, nothing stays behind in spare room.
func TestNothingStays(t *testing.T) {
	d := made(t, 8, 8)
	for i := range 8 {
		wantSend(t, d, base(uint32(1+i), 1), i+1, api.OK)
		wantErr(t, d.Take(base(uint32(1+i), 1)), api.OK)
	}
	for range 4 {
		d.Done()
		d.Fetch()
	}
	d.Drop(6)
	for _, m := range d.full[len(d.full):cap(d.full)] {
		if m != (mail{}) {
			t.Errorf("a mailbox still has %v", m)
		}
	}
	for _, f := range d.came[len(d.came):cap(d.came)] {
		if f != (api.Frame{}) {
			t.Errorf("there still is %v", f)
		}
	}
}
