package nvm

import (
	"math"
	"strings"
	"testing"

	"tramway/api"
)

const (
	ones   = "\x01\x02\x03\x04\x05\x06\x07\x08"
	twos   = "\xff\xfe\xfd\xfc\xfb\xfa\xf9\xf8"
	blanks = "\x00\x00\x00\x00\x00\x00\x00\x00"
)

// P9.1: from 4 to 32768 pages.
func TestNewRange(t *testing.T) {
	for _, n := range []int{math.MinInt, -mostOfAll, -4, -1, 0, 1, 2, 3, mostOfAll + 1, mostOfAll + 2, 2 * mostOfAll, 1 << 32, math.MaxInt} {
		if c, err := New(n); c != nil || err != api.ErrArg {
			t.Errorf("New(%d): %v %d", n, c != nil, err)
		}
	}
	for _, n := range []int{4, 5, 6, 7, mostOfAll - 1, mostOfAll} {
		if c := made(t, n); c.Pages() != n {
			t.Errorf("New(%d) has %d pages", n, c.Pages())
		}
	}
}

// P9.1: a new chip has power, which is not to be cut, and noughts alone.
func TestNewIsBlank(t *testing.T) {
	for _, n := range []int{4, 5, mostOfAll} {
		c := made(t, n)
		wantPages(t, c, strings.Repeat(blanks, n))
		wantDead(t, c, false)
		for i := range n {
			wantWrite(t, c, i, twos, true)
		}
		wantDead(t, c, false)
		wantPages(t, c, strings.Repeat(twos, n))
	}
}

// P9.1: pages from 0 to the last one; those that are none are not written, and are noughts.
func TestPagesThatAreNone(t *testing.T) {
	for _, n := range []int{4, 5, mostOfAll} {
		c := made(t, n)
		for i := range n {
			wantWrite(t, c, i, twos, true)
		}
		for _, at := range []int{math.MinInt, -n, -2, -1, n, n + 1, 2 * n, 1 << 32, math.MaxInt} {
			wantWrite(t, c, at, ones, false)
			wantRead(t, c, at, blanks)
		}
		wantPages(t, c, strings.Repeat(twos, n))
		wantWrite(t, c, n-1, ones, true)
		wantWrite(t, c, 0, ones, true)
		wantPages(t, c, ones+strings.Repeat(twos, n-2)+ones)
		wantDead(t, c, false)
	}
}

// P9.1: a page has what was written to it last, each of its bytes; the others stay.
func TestWriteOver(t *testing.T) {
	c := made(t, 4)
	wantWrite(t, c, 1, ones, true)
	wantPages(t, c, blanks+ones+blanks+blanks)
	wantWrite(t, c, 2, twos, true)
	wantWrite(t, c, 1, "abcdefgh", true)
	wantPages(t, c, blanks+"abcdefgh"+twos+blanks)
	wantWrite(t, c, 1, blanks, true)
	wantPages(t, c, blanks+blanks+twos+blanks)
}

// P9.1: behind so many Writes that are true the next one finds the power cut.
func TestCut(t *testing.T) {
	for _, after := range []int{0, 1, 2, 3, 100} {
		c := made(t, 5)
		c.Cut(after)
		for i := range after {
			wantDead(t, c, false)
			wantWrite(t, c, i%5, ones, true)
		}
		wantDead(t, c, false)
		before := all(c)
		wantWrite(t, c, 4, twos, false)
		wantDead(t, c, true)
		wantPages(t, c, before)
		for i := range 5 {
			wantWrite(t, c, i, twos, false)
		}
		wantPages(t, c, before)
		wantDead(t, c, true)
	}
}

// P9.1: a dead chip tells its pages, also those that are none.
func TestDeadReads(t *testing.T) {
	c, _ := laid(t, ones+twos+ones+twos+"abcdefgh")
	c.Cut(0)
	wantWrite(t, c, 0, twos, false)
	wantDead(t, c, true)
	wantPages(t, c, ones+twos+ones+twos+"abcdefgh")
	wantRead(t, c, -1, blanks)
	wantRead(t, c, 5, blanks)
	wantWrite(t, c, 5, ones, false)
	wantWrite(t, c, -1, ones, false)
	if c.Pages() != 5 {
		t.Error(c.Pages())
	}
}

// P9.1: a Cut below 0 never comes, and one behind more Writes than there are does not come.
func TestCutNever(t *testing.T) {
	for _, after := range []int{math.MinInt, -100, -2, -1, 1000, 1 << 32, math.MaxInt} {
		c := made(t, 4)
		c.Cut(after)
		for i := range 1000 {
			wantWrite(t, c, i%4, ones, true)
		}
		wantDead(t, c, false)
	}
	c := made(t, 4)
	c.Cut(1000)
	for range 1000 {
		wantWrite(t, c, 0, ones, true)
	}
	wantWrite(t, c, 0, twos, false)
	wantRead(t, c, 0, ones)
}

// P9.1: a further Cut takes the place of the one ahead, and counts from its own call on.
func TestCutTwice(t *testing.T) {
	for _, x := range []struct{ first, between, second, more int }{
		{0, 0, 2, 2}, {2, 0, 0, 0}, {2, 2, 2, 2}, {5, 3, 1, 1}, {3, 3, 0, 0}, {1, 1, 4, 4}, {0, 0, 0, 0},
		{-1, 2, 1, 1}, {-5, 0, 0, 0},
	} {
		c := made(t, 4)
		c.Cut(x.first)
		for range x.between {
			wantWrite(t, c, 0, ones, true)
		}
		c.Cut(x.second)
		for range x.more {
			wantWrite(t, c, 0, twos, true)
		}
		wantDead(t, c, false)
		wantWrite(t, c, 1, twos, false)
		wantDead(t, c, true)
	}
	for _, after := range []int{0, 1, 2} {
		c := made(t, 4)
		c.Cut(after)
		for range after {
			wantWrite(t, c, 0, ones, true)
		}
		c.Cut(-1)
		for range 9 {
			wantWrite(t, c, 0, ones, true)
		}
		wantDead(t, c, false)
	}
}

// P9.1: Writes that are false do not count; one to a page that is none does not find the power cut.
func TestFalseWritesDoNotCount(t *testing.T) {
	c := made(t, 4)
	c.Cut(2)
	wrong := func() {
		for _, at := range []int{-1, 4, math.MinInt, math.MaxInt} {
			wantWrite(t, c, at, ones, false)
			wantDead(t, c, false)
		}
	}
	wrong()
	wantWrite(t, c, 0, ones, true)
	wrong()
	wantWrite(t, c, 3, ones, true)
	wrong()
	wantWrite(t, c, 0, twos, false)
	wantDead(t, c, true)
	wantPages(t, c, ones+blanks+blanks+ones)
	c.Power()
	c.Cut(0)
	wrong()
	wantWrite(t, c, 1, twos, false)
	wantDead(t, c, true)
}

// P9.1: what only reads does not count.
func TestReadsDoNotCount(t *testing.T) {
	c := made(t, 4)
	c.Cut(1)
	for i := range 9 {
		c.Read(i - 2)
		c.Pages()
		c.Dead()
		Room(c)
		wantNone(t, c)
	}
	wantWrite(t, c, 0, ones, true)
	wantWrite(t, c, 0, ones, false)
}

// P9.1: Power of a dead chip, of one that a Cut is to come to, and of one that has power.
func TestPower(t *testing.T) {
	c := made(t, 4)
	c.Power()
	wantWrite(t, c, 0, ones, true)
	c.Cut(0)
	wantWrite(t, c, 1, ones, false)
	c.Power()
	wantDead(t, c, false)
	wantPages(t, c, ones+blanks+blanks+blanks)
	for i := range 4 {
		wantWrite(t, c, i, twos, true)
	}
	for _, after := range []int{0, 1, 7} {
		c.Cut(after)
		c.Power()
		for range 20 {
			wantWrite(t, c, 2, ones, true)
		}
		wantDead(t, c, false)
	}
	c.Cut(3)
	wantWrite(t, c, 2, ones, true)
	c.Power()
	c.Cut(2)
	wantWrite(t, c, 2, ones, true)
	wantWrite(t, c, 2, ones, true)
	wantWrite(t, c, 2, ones, false)
	wantDead(t, c, true)
	c.Power()
	c.Power()
	wantDead(t, c, false)
	wantWrite(t, c, 2, ones, true)
}

// P9.1: a Cut of a dead chip gives no power, and Power takes it away, too.
func TestCutOfDead(t *testing.T) {
	for _, after := range []int{-1, 0, 1, 5} {
		c := made(t, 4)
		c.Cut(0)
		wantWrite(t, c, 0, ones, false)
		c.Cut(after)
		wantDead(t, c, true)
		wantWrite(t, c, 0, ones, false)
		wantDead(t, c, true)
		c.Power()
		wantDead(t, c, false)
		for range 20 {
			wantWrite(t, c, 0, ones, true)
		}
	}
}

// The rules on memory and on objects: a page is its bytes alone, and two chips know nothing of one another.
func TestPagesAreCopies(t *testing.T) {
	c, other := made(t, 4), made(t, 4)
	b := [8]byte([]byte(ones))
	c.Write(1, b)
	b[0] = 99
	wantRead(t, c, 1, ones)
	read := c.Read(1)
	clear(read[:])
	wantRead(t, c, 1, ones)
	wantPages(t, other, strings.Repeat(blanks, 4))
	other.Cut(0)
	wantWrite(t, c, 1, twos, true)
	wantWrite(t, other, 1, twos, false)
	wantDead(t, c, false)
}
