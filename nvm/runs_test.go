package nvm

import (
	"testing"

	"tramway/api"
)

// call is one of a chip's or a store's calls, with its arguments.
type call struct {
	kind byte // w, c, p, s, e
	n    int
	b    string
}

// call is some call on a chip of so many pages: a page that is none, and bytes without room, now and then.
func (d *dice) call(pages int) call {
	room := (pages/2 - 1) * page
	switch d.below(10) {
	case 0:
		return call{'w', d.below(pages+2) - 1, d.bytes(page)}
	case 1, 2:
		return call{'c', d.below(8+pages/2) - 2, ""}
	case 3, 4:
		return call{'p', 0, ""}
	case 5:
		return call{'e', 0, ""}
	}
	return call{'s', 0, d.bytes(d.below(room + 3))}
}

func (x call) on(c *Chip) (bool, api.Errno) {
	switch x.kind {
	case 'w':
		return c.Write(x.n, [8]byte([]byte(x.b))), api.OK
	case 'c':
		c.Cut(x.n)
	case 'p':
		c.Power()
	case 's':
		return false, Save(c, []byte(x.b))
	case 'e':
		return false, Erase(c)
	}
	return false, api.OK
}

func (x call) onSheet(s *sheet) (bool, api.Errno) {
	switch x.kind {
	case 'w':
		return s.all(goes{x.n, x.b}), api.OK
	case 'c':
		s.cutBehind(x.n)
	case 'p':
		s.power()
	case 's':
		return false, s.save(x.b)
	case 'e':
		return false, s.erase()
	}
	return false, api.OK
}

// P9.1 to P9.6: runs of all calls, held against a sheet behind each.
func TestRunsAsTheSheet(t *testing.T) {
	d := dice(95)
	for range 600 {
		pages := 4 + d.below(9)
		c, s := made(t, pages), sheetOf(pages)
		for range 60 {
			x := d.call(pages)
			is, err := x.on(c)
			if want, code := x.onSheet(s); is != want || err != code {
				t.Fatalf("%c %d %x: %v %d, want %v %d", x.kind, x.n, x.b, is, err, want, code)
			}
			wantSame(t, c, s)
			for at := -1; at <= pages; at++ {
				wantRead(t, c, at, s.read(at))
			}
		}
	}
}

// P9.3, P9.6: Saves whose power is cut again and again, also several times in a row: what is kept is what the last one that was OK kept.
func TestWholeWheneverItIsCut(t *testing.T) {
	d := dice(96)
	for range 300 {
		c := made(t, 4+d.below(20))
		kept, any := "", false
		for range 80 {
			b := d.bytes(d.below(Room(c) + 1))
			writes := 2 + (len(b)+7)/8
			cut := d.below(writes+3) - 1
			c.Cut(cut)
			want := api.ErrState
			if cut < 0 || cut >= writes {
				want, kept, any = api.OK, b, true
			}
			wantSave(t, c, b, want)
			wantDead(t, c, want != api.OK)
			if d.once(2) && c.Dead() {
				wantSave(t, c, b, api.ErrState)
			}
			for range 2 {
				if any {
					wantLoad(t, c, kept)
				} else {
					wantNone(t, c)
				}
				c.Power()
			}
		}
	}
}

// P9.3, P9.6: the greatest chip, cut ahead of its first Writes, in the midst, ahead of the last ones and behind them.
func TestGreatestChipCut(t *testing.T) {
	d := dice(97)
	c := made(t, mostOfAll)
	kept := d.bytes(mostOfRoom)
	wantSave(t, c, kept, api.OK)
	b := d.bytes(mostOfRoom)
	const writes = 2 + mostOfRoom/8
	for _, cut := range []int{0, 1, 2, writes / 2, writes - 2, writes - 1} {
		c.Cut(cut)
		wantSave(t, c, b, api.ErrState)
		wantLoad(t, c, kept)
		c.Power()
		wantLoad(t, c, kept)
	}
	c.Cut(writes)
	wantSave(t, c, b, api.OK)
	wantLoad(t, c, b)
	wantDead(t, c, false)
	wantWrite(t, c, 0, blanks, false)
	wantLoad(t, c, b)
}
