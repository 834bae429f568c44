package nvm

import (
	"fmt"
	"math"
	"slices"
	"strings"
	"testing"

	"tramway/api"
)

// The chapter's example, with each page told by hand.
func TestExample(t *testing.T) {
	c := made(t, 4)
	if Room(c) != 8 {
		t.Fatal(Room(c))
	}
	wantSave(t, c, "a", api.OK)
	c.Cut(1)
	wantSave(t, c, "b", api.ErrState)
	wantDead(t, c, true)
	wantLoad(t, c, "a")
	wantPages(t, c, "\x01\x00\x01\x00\x00\x00\xb7\x6e"+"a\x00\x00\x00\x00\x00\x00\x00"+blanks+blanks)
	c.Power()
	wantLoad(t, c, "a")
	wantSave(t, c, "b", api.OK)
	wantLoad(t, c, "b")
	wantPages(t, c, "\x01\x00\x01\x00\x00\x00\xb7\x6e"+"a\x00\x00\x00\x00\x00\x00\x00"+"\x02\x00\x01\x00\x00\x00\x56\x86"+"b\x00\x00\x00\x00\x00\x00\x00")
}

// P9.2: what is answered of nil, ahead of all else.
func TestNil(t *testing.T) {
	if n := Room(nil); n != 0 {
		t.Error(n)
	}
	for _, b := range []string{"", "a", "123456789", strings.Repeat("a", mostOfRoom+1)} {
		wantSave(t, nil, b, api.ErrArg)
	}
	if err := Save(nil, nil); err != api.ErrArg {
		t.Error(err)
	}
	wantNone(t, nil)
	wantErase(t, nil, api.ErrArg)
}

// P9.2, P9.5: 8 times a half's pages less one.
func TestRoom(t *testing.T) {
	for _, x := range []struct{ pages, want int }{{4, 8}, {5, 8}, {6, 16}, {7, 16}, {8, 24}, {1001, 3992}, {mostOfAll - 1, mostOfRoom - 8}, {mostOfAll, mostOfRoom}} {
		c := made(t, x.pages)
		if n := Room(c); n != x.want {
			t.Errorf("Room of %d pages: %d, want %d", x.pages, n, x.want)
		}
		wantSave(t, c, "a", api.OK)
		c.Cut(0)
		c.Write(0, [8]byte{})
		if n := Room(c); n != x.want {
			t.Errorf("Room of %d pages, dead: %d, want %d", x.pages, n, x.want)
		}
	}
}

// P9.2: heads and pages told by hand, from one half to the other.
func TestPagesByHand(t *testing.T) {
	c := made(t, 6)
	wantNone(t, c)
	wantSave(t, c, "hello", api.OK)
	first := "\x01\x00\x05\x00\x00\x00\xe7\x6c" + "hello\x00\x00\x00" + blanks
	wantPages(t, c, first+blanks+blanks+blanks)
	wantSave(t, c, "0123456789", api.OK)
	second := "\x02\x00\x0a\x00\x00\x00\x98\xc1" + "01234567" + "89\x00\x00\x00\x00\x00\x00"
	wantPages(t, c, first+second)
	wantLoad(t, c, "0123456789")
	// No bytes have no pages: those that are there stay as they are.
	wantSave(t, c, "", api.OK)
	wantPages(t, c, "\x03\x00\x00\x00\x00\x00\xe0\xce"+"hello\x00\x00\x00"+blanks+second)
	wantLoad(t, c, "")
}

// P9.2: a count and a counter of several bytes, lowest first.
func TestLongHeads(t *testing.T) {
	b := strings.Repeat("\x00", 300)
	c, s := laid(t, strings.Repeat(blanks, 50)+holding(50, 257, "abc"))
	wantSame(t, c, s)
	wantSave(t, c, b, api.OK)
	wantRead(t, c, 0, "\x02\x01\x2c\x01\x00\x00\x21\xaf")
	wantLoad(t, c, b)
	c = made(t, mostOfAll)
	b = strings.Repeat("\x5a", mostOfRoom)
	wantSave(t, c, b, api.OK)
	if p := c.Read(0); [6]byte(p[:]) != [6]byte{1, 0, 0xf8, 0xff, 1, 0} {
		t.Errorf("%x", p)
	}
	wantLoad(t, c, b)
}

// lengths are numbers of bytes around whole pages, up to what has room.
func lengths(room int) []int {
	var l []int
	for _, n := range []int{0, 1, 2, 7, 8, 9, 15, 16, 17, 255, 256, 257, 65535, 65536, 65537, room - 9, room - 8, room - 7, room - 1, room} {
		if n >= 0 && n <= room && !slices.Contains(l, n) {
			l = append(l, n)
		}
	}
	return l
}

// P9.2, P9.5: just what has room is kept, in either half, over whatever was there.
func TestLengths(t *testing.T) {
	d := dice(91)
	for _, pages := range []int{4, 5, 6, 7, 9, 64, 65, mostOfAll - 1, mostOfAll} {
		c, s := laid(t, d.bytes(pages*page))
		room := Room(c)
		kept := ""
		for _, n := range lengths(room) {
			b := d.bytes(n)
			wantSave(t, c, b, api.OK)
			s.save(b)
			wantLoad(t, c, b)
			kept = b
		}
		wantSame(t, c, s)
		for _, n := range []int{room + 1, room + 2, room + 8, room + 9, 2 * room, 1 << 18} {
			wantSave(t, c, d.bytes(n), api.ErrLong)
			wantLoad(t, c, kept)
		}
		wantSame(t, c, s)
	}
}

// P9.2: nil and no bytes are alike: they are kept, which is another thing than none.
func TestNoBytes(t *testing.T) {
	c := made(t, 4)
	wantNone(t, c)
	if err := Save(c, nil); err != api.OK {
		t.Fatal(err)
	}
	wantLoad(t, c, "")
	wantPages(t, c, "\x01\x00\x00\x00\x00\x00\xa0\x45"+blanks+blanks+blanks)
	wantSave(t, c, "", api.OK)
	wantLoad(t, c, "")
	wantErase(t, c, api.OK)
	wantNone(t, c)
}

// P9.2: which error is first, and that none of them writes.
func TestFirstError(t *testing.T) {
	c := made(t, 4)
	wantSave(t, c, "12345678", api.OK)
	before := all(c)
	c.Cut(0)
	wantSave(t, c, "123456789", api.ErrLong) // it has power yet: nothing was to be written
	wantDead(t, c, false)
	wantWrite(t, c, 0, ones, false)
	wantSave(t, c, "123456789", api.ErrLong)
	wantSave(t, c, "12345678", api.ErrState)
	wantSave(t, c, "", api.ErrState)
	wantErase(t, c, api.ErrState)
	wantDead(t, c, true)
	wantPages(t, c, before)
	wantLoad(t, c, "12345678")
	c.Power()
	wantSave(t, c, "", api.OK)
	wantLoad(t, c, "")
}

// P9.2, P9.6: the Writes one by one: which page, with what, and nothing else; as many as 2 and one for each 8 bytes begun.
func TestWriteByWrite(t *testing.T) {
	d := dice(92)
	for _, pages := range []int{4, 5, 8, 11} {
		for n := range pages/2*page - page + 1 {
			for saved := range 4 {
				s := &sheet{text: d.bytes(pages * page)}
				for range saved {
					s.save(d.bytes(d.below(9)))
				}
				writeByWrite(t, s, d.bytes(n))
			}
		}
	}
}

// writeByWrite cuts the power of a Save on chips of one text ahead of each of its Writes, behind the last one, and behind one more.
func writeByWrite(t *testing.T, start *sheet, b string) {
	t.Helper()
	l := start.saves(b)
	if len(l) != 2+(len(b)+7)/8 {
		t.Fatal(len(l))
	}
	for cut := range l {
		c, s := laid(t, start.text)
		c.Cut(cut)
		wantSave(t, c, b, api.ErrState)
		s.all(l[:cut]...)
		s.dead = true
		wantSame(t, c, s)
		wantKept(t, c, start)
		c.Power()
		wantKept(t, c, start)
		wantSave(t, c, b, api.OK)
		wantLoad(t, c, b)
	}
	for more := range 2 {
		c, s := laid(t, start.text)
		c.Cut(len(l) + more)
		wantSave(t, c, b, api.OK)
		s.all(l...)
		wantSame(t, c, s)
		wantLoad(t, c, b)
		wantWrite(t, c, 0, blanks, more > 0)
	}
}

// P9.2: of an odd number the last page is in no half.
func TestOddPages(t *testing.T) {
	for _, pages := range []int{5, 7, 101} {
		c := made(t, pages)
		wantWrite(t, c, pages-1, twos, true)
		for i := range 6 {
			b := strings.Repeat(string(rune('a'+i)), Room(c))
			wantSave(t, c, b, api.OK)
			wantRead(t, c, pages-1, twos)
			wantWrite(t, c, pages-1, twos, true)
			wantLoad(t, c, b)
			head := c.Read(i % 2 * (pages / 2))
			if int(head[0]) != i+1 {
				t.Fatalf("head %x of the Save %d", head, i)
			}
		}
		wantErase(t, c, api.OK)
		wantRead(t, c, pages-1, twos)
	}
}

// P9.2: both halves hold: the one whose counter is the other one's next is kept, else the first; and the other one is written to next.
func TestBothHold(t *testing.T) {
	for _, x := range []struct {
		first, second uint16
		kept          int
		next          uint16
	}{
		{1, 2, 1, 3}, {2, 1, 0, 3}, {7, 8, 1, 9}, {8, 7, 0, 9}, {255, 256, 1, 257}, {256, 255, 0, 257}, {0x1ff, 0x200, 1, 0x201},
		{65534, 65535, 1, 1}, {65535, 65534, 0, 1}, {65535, 1, 1, 2}, {1, 65535, 0, 2},
		{1, 1, 0, 2}, {5, 5, 0, 6}, {65535, 65535, 0, 1}, {1, 3, 0, 2}, {3, 1, 0, 4}, {65534, 1, 0, 65535}, {1, 65534, 0, 2},
		{65535, 2, 0, 1}, {2, 65535, 0, 3}, {100, 356, 0, 101}, {0x0102, 0x0203, 0, 0x0103}, {1, 0x8001, 0, 2}, {0x8001, 1, 0, 0x8002},
	} {
		halves := []string{holding(3, x.first, "one"), holding(3, x.second, "the other")}
		c, s := laid(t, halves[0]+halves[1])
		wantLoad(t, c, []string{"one", "the other"}[x.kept])
		wantSame(t, c, s)
		wantSave(t, c, "further", api.OK)
		halves[1-x.kept] = holding(2, x.next, "further")
		got := all(c)
		for i, h := range halves {
			if !strings.HasPrefix(got[i*24:], h) {
				t.Fatalf("%d, %d: half %d is %x, want %x", x.first, x.second, i, got[i*24:i*24+24], h)
			}
		}
		wantLoad(t, c, "further")
	}
}

// P9.2: one half alone holds, whichever its counter is.
func TestOneHolds(t *testing.T) {
	for _, counter := range []uint16{1, 2, 255, 256, 65534, 65535} {
		for at := range 2 {
			l := []string{holding(2, 0, "no"), holding(2, 0, "no")}
			l[at] = holding(2, counter, "yes")
			c, s := laid(t, l[0]+l[1])
			wantLoad(t, c, "yes")
			wantSame(t, c, s)
			wantSave(t, c, "more", api.OK)
			l[1-at] = holding(2, uint16(int(counter)%65535+1), "more")
			wantPages(t, c, l[0]+l[1])
			wantLoad(t, c, "more")
		}
	}
}

// wrongHalves are halves of 3 pages that hold nothing, though but one thing is wrong with each.
func wrongHalves(counter uint16) map[string]string {
	right := holding(3, counter, "0123456789")
	l := map[string]string{
		"noughts":            filled("", 3),
		"ones":               strings.Repeat("\xff", 24),
		"counter 0":          holding(3, 0, "0123456789"),
		"counter 0, none":    holding(3, 0, ""),
		"another sum":        right[:6] + "\x00\x00" + right[8:],
		"its sum turned":     right[:6] + right[7:8] + right[6:7] + right[8:],
		"sum of bytes alone": right[:6] + string([]byte{byte(sum("0123456789")), byte(sum("0123456789") >> 8)}) + right[8:],
		"sum of whole pages": headed(counter, 10, right[8:]) + right[8:],
		"head alone, summed": headed(counter, 10, "") + right[8:],
	}
	for _, count := range []uint32{17, 18, 24, 25, 255, 256, 1 << 16, 1 << 17, 1 << 24, math.MaxInt32, 1 << 31, math.MaxUint32 - 7, math.MaxUint32} {
		// Whatever bytes one might take for those: all that have room, none, or those and noughts.
		for i, b := range []string{right[8:], "", right[8:] + "\x00", right[8:] + filled("", 1)} {
			l[fmt.Sprint("count ", count, " of ", i)] = headed(counter, count, b) + right[8:]
		}
	}
	for bit := range 18 * 8 { // of the head and of the bytes kept, each bit alone
		b := []byte(right)
		b[bit/8] ^= 1 << (bit % 8)
		l[fmt.Sprint("bit ", bit)] = string(b)
	}
	return l
}

// P9.2: halves that hold nothing, alone and beside one that does.
func TestHoldsNothing(t *testing.T) {
	fine := holding(3, 7, "fine")
	for _, counter := range []uint16{1, 6, 8, 65535} {
		for name, wrong := range wrongHalves(counter) {
			if len(wrong) != 24 {
				t.Fatal(name, len(wrong))
			}
			for _, x := range []struct{ text, want string }{{wrong + wrong, ""}, {wrong + fine, "fine"}, {fine + wrong, "fine"}} {
				c, s := laid(t, x.text)
				if _, is := Load(c); is != (x.want != "") {
					t.Fatalf("%s: %v", name, is)
				}
				wantSame(t, c, s)
				wantSave(t, c, "saved", api.OK)
				s.save("saved")
				wantSame(t, c, s)
				wantLoad(t, c, "saved")
			}
		}
	}
}

// P9.2: a count without room, whose sum is that of the bytes which go on behind the half.
func TestCountIntoTheOtherHalf(t *testing.T) {
	behind := holding(2, 0, "behind")
	for n := 9; n <= 24; n++ {
		b := ("abcdefgh" + behind)[:n]
		c, s := laid(t, headed(1, uint32(n), b)+"abcdefgh"+behind)
		wantNone(t, c)
		wantSame(t, c, s)
	}
	// Of an odd number the page behind the halves is in none of them.
	for n := 9; n <= 16; n++ {
		b := ("abcdefghijklmnop")[:n]
		c, s := laid(t, filled("", 2)+headed(1, uint32(n), b)+"abcdefghijklmnop")
		wantNone(t, c)
		wantSame(t, c, s)
	}
}

// P9.2: behind the bytes kept no sum reaches: whatever stands there, the half holds.
func TestBehindTheBytes(t *testing.T) {
	c := made(t, 6)
	wantSave(t, c, "abc", api.OK)
	wantWrite(t, c, 1, "abcXYZ\xff\x01", true)
	wantWrite(t, c, 2, twos, true)
	wantLoad(t, c, "abc")
	wantSave(t, c, "", api.OK)
	wantWrite(t, c, 4, twos, true)
	wantLoad(t, c, "")
	wantWrite(t, c, 1, "abdXYZ\xff\x01", true)
	wantLoad(t, c, "")
	wantWrite(t, c, 3, twos, true)
	wantNone(t, c)
}

// P9.2: Erase makes the heads noughts and nothing else; behind it all begins anew.
func TestErase(t *testing.T) {
	for saves := range 4 {
		c, s := laid(t, strings.Repeat(twos, 7))
		for i := range saves {
			wantSave(t, c, strings.Repeat("x", i+7), api.OK)
		}
		s.text = all(c)
		wantErase(t, c, api.OK)
		wantNone(t, c)
		s.text = blanks + s.text[8:24] + blanks + s.text[32:]
		wantPages(t, c, s.text)
		wantErase(t, c, api.OK)
		wantPages(t, c, s.text)
		wantSave(t, c, "a", api.OK)
		wantRead(t, c, 0, "\x01\x00\x01\x00\x00\x00\xb7\x6e")
		wantRead(t, c, 3, blanks)
		wantLoad(t, c, "a")
	}
}

// P9.2: an Erase has two Writes, the first head's first; cut short behind that one, what the second half holds is kept.
func TestEraseCut(t *testing.T) {
	one, two := holding(2, 1, "one"), holding(2, 2, "two")
	for _, x := range []struct{ first, second, want string }{
		{one, two, "two"}, {two, one, "one"}, {one, filled("", 2), ""}, {filled("", 2), two, "two"}, {filled("", 2), filled("", 2), ""},
	} {
		text := x.first + x.second
		for cut, left := range []string{text, blanks + text[8:], blanks + text[8:16] + blanks + text[24:], blanks + text[8:16] + blanks + text[24:]} {
			c, _ := laid(t, text)
			s := &sheet{text: left, dead: cut < 2}
			c.Cut(cut)
			want := api.ErrState
			if cut >= 2 {
				want = api.OK
			}
			wantErase(t, c, want)
			wantSame(t, c, s)
			if cut == 1 {
				if b, is := Load(c); string(b) != x.want || is != (x.want != "") {
					t.Fatalf("%s %v, want %s", b, is, x.want)
				}
			}
			if c.Dead() {
				wantErase(t, c, api.ErrState)
				wantPages(t, c, left)
			}
			c.Power()
			wantErase(t, c, api.OK)
			wantNone(t, c)
		}
	}
}

// P9.4: Load changes nothing, though a Cut is to come, and of a dead chip is the same; a Save of what is kept keeps it.
func TestAgain(t *testing.T) {
	d := dice(94)
	for _, pages := range []int{4, 5, 30} {
		c := made(t, pages)
		for n := range Room(c) + 1 {
			b := d.bytes(n)
			wantSave(t, c, b, api.OK)
			before := all(c)
			c.Cut(0)
			for range 3 {
				wantLoad(t, c, b)
			}
			wantDead(t, c, false)
			wantPages(t, c, before)
			wantWrite(t, c, 0, blanks, false)
			wantLoad(t, c, b)
			wantPages(t, c, before)
			c.Power()
			for range 3 {
				kept, _ := Load(c)
				wantSave(t, c, string(kept), api.OK)
				wantLoad(t, c, b)
			}
		}
	}
}

// P9.2, P9.3: the counter goes past 65535, over 0, to 1; twice.
func TestManySaves(t *testing.T) {
	c := made(t, 4)
	for i := range 2*65535 + 10 {
		b := []byte{byte(i), byte(i >> 8), byte(i >> 16)}
		wantSave(t, c, string(b), api.OK)
		wantLoad(t, c, string(b))
		head := c.Read(i % 2 * 2)
		if want := i%65535 + 1; int(head[0])|int(head[1])<<8 != want {
			t.Fatalf("head %x of the Save %d, want the counter %d", head, i, want)
		}
		if i%65535 > 65530 || i%65535 < 3 {
			for cut := range 3 {
				c.Cut(cut)
				wantSave(t, c, "else", api.ErrState)
				c.Power()
				wantLoad(t, c, string(b))
			}
		}
	}
}

// The rule on memory: neither what was given nor what was answered has to do with the chip, or with one another, their spare room too.
func TestMemory(t *testing.T) {
	c := made(t, 8)
	room := []byte("0123456789ABCDEFGHIJKLMNOP")
	given := room[:10]
	if err := Save(c, given); err != api.OK || string(room) != "0123456789ABCDEFGHIJKLMNOP" {
		t.Fatal(err, string(room))
	}
	wantRead(t, c, 2, "89\x00\x00\x00\x00\x00\x00")
	clear(room)
	wantLoad(t, c, "0123456789")
	first, _ := Load(c)
	second, _ := Load(c)
	for i := range first[:cap(first)] {
		first[:cap(first)][i] = 'x'
	}
	_ = append(first[:5], "yyyyyyyyyyyyyyyyyy"...)
	if string(second) != "0123456789" {
		t.Fatal(string(second))
	}
	wantLoad(t, c, "0123456789")
	// What was told is not changed by what is saved later.
	for range 3 {
		wantSave(t, c, "other bytes", api.OK)
	}
	wantErase(t, c, api.OK)
	if string(second) != "0123456789" {
		t.Fatal(string(second))
	}
	// An answer may be handed in again, a piece of it, too.
	wantSave(t, c, "0123456789", api.OK)
	kept, _ := Load(c)
	if err := Save(c, kept[3:7]); err != api.OK {
		t.Fatal(err)
	}
	wantLoad(t, c, "3456")
}

// The rule on objects: two chips' stores know nothing of one another.
func TestTwoStores(t *testing.T) {
	a, b := made(t, 4), made(t, 6)
	wantSave(t, a, "a", api.OK)
	wantNone(t, b)
	wantSave(t, b, "b", api.OK)
	a.Cut(0)
	wantSave(t, a, "c", api.ErrState)
	wantSave(t, b, "d", api.OK)
	wantLoad(t, a, "a")
	wantLoad(t, b, "d")
}

// The rule on ends: a chip that New did not make keeps nothing, and nothing panics.
func TestZeroChip(t *testing.T) {
	var c Chip
	wantWrite(t, &c, 0, ones, false)
	wantRead(t, &c, 0, blanks)
	wantDead(t, &c, false)
	for _, after := range []int{-1, 0, 1} {
		c.Cut(after)
		if Save(&c, nil) == api.OK || Save(&c, []byte("a")) == api.OK || Erase(&c) == api.OK {
			t.Error("a chip without pages keeps")
		}
		wantNone(t, &c)
		Room(&c)
		c.Power()
	}
	if c.Pages() != 0 {
		t.Error(c.Pages())
	}
}
