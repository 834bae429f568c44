package nvm

import (
	"encoding/binary"
	"strconv"
	"strings"
	"testing"

	"tramway/api"
)

const (
	page       = 8     // bytes of one
	mostOfAll  = 32768 // pages
	mostOfRoom = 131064
)

// dice is a source of numbers that are the same at each run.
type dice uint64

func (d *dice) next() uint64 {
	*d ^= *d << 13
	*d ^= *d >> 7
	*d ^= *d << 17
	return uint64(*d)
}

// below is a number from 0 to n, less 1.
func (d *dice) below(n int) int { return int(d.next() % uint64(n)) }

func (d *dice) once(in int) bool { return d.below(in) == 0 }

func (d *dice) bytes(n int) string {
	b := make([]byte, n)
	for i := range b {
		b[i] = byte(d.next())
	}
	return string(b)
}

// sum is the one of 16 bits, reckoned four bits at a time from a table of what these come to.
func sum(b string) uint16 {
	var table [16]uint16
	for i := range table {
		n := uint16(i) << 12
		for range 4 {
			n = n<<1 ^ n>>15*0x1021
		}
		table[i] = n
	}
	var n uint16
	for i := range len(b) {
		n = n<<4 ^ table[n>>12^uint16(b[i]>>4)]
		n = n<<4 ^ table[n>>12^uint16(b[i]&15)]
	}
	return n
}

// headed is a head of a counter, of a count that may be another one than that of the bytes, and of the sum that these bytes have then.
func headed(counter uint16, count uint32, b string) string {
	head := binary.LittleEndian.AppendUint16(nil, counter)
	head = binary.LittleEndian.AppendUint32(head, count)
	return string(binary.LittleEndian.AppendUint16(head, sum(string(head)+b)))
}

// holding is a half's pages, of a chip whose halves have so many, that hold bytes.
func holding(pages int, counter uint16, b string) string {
	return filled(headed(counter, uint32(len(b)), b)+b, pages)
}

// filled is bytes with noughts behind them, up to so many pages.
func filled(b string, pages int) string { return b + strings.Repeat("\x00", pages*page-len(b)) }

// sheet is a chip and its store written otherwise: its pages are one text, a half is a piece of it, and what is to be written is a list.
type sheet struct {
	text      string
	dead, cut bool // cut: a Cut is to come
	after     int
}

func sheetOf(pages int) *sheet { return &sheet{text: strings.Repeat("\x00", pages*page)} }

func (s *sheet) pages() int { return len(s.text) / page }

// size is how many bytes a half has.
func (s *sheet) size() int { return len(s.text) / (2 * page) * page }

func (s *sheet) read(at int) string {
	if at < 0 || at >= s.pages() {
		return strings.Repeat("\x00", page)
	}
	return s.text[at*page : (at+1)*page]
}

// goes is one Write.
type goes struct {
	at int
	b  string
}

// all goes through Writes up to one that is false.
func (s *sheet) all(l ...goes) bool {
	b := []byte(s.text)
	defer func() { s.text = string(b) }()
	for _, g := range l {
		if g.at < 0 || g.at >= s.pages() || s.dead {
			return false
		}
		if s.cut && s.after == 0 {
			s.dead = true
			return false
		}
		s.after--
		copy(b[g.at*page:], g.b)
	}
	return true
}

func (s *sheet) cutBehind(after int) { s.cut, s.after = after >= 0, after }

func (s *sheet) power() { s.dead, s.cut = false, false }

// holds is what a half's text holds, its counter, and whether it holds any.
func holds(text string) (string, uint16, bool) {
	counter := binary.LittleEndian.Uint16([]byte(text))
	count := binary.LittleEndian.Uint32([]byte(text[2:]))
	if counter == 0 || int64(count) > int64(len(text)-page) {
		return "", 0, false
	}
	b := text[page : page+count]
	return b, counter, text[:page] == headed(counter, count, b)
}

// keeps is what is kept, its counter, and at which of the two halves; or -1 for none.
func (s *sheet) keeps() (string, uint16, int) {
	first, n, is := holds(s.text[:s.size()])
	second, m, also := holds(s.text[s.size() : 2*s.size()])
	switch {
	case is && also && m == n%65535+1:
		return second, m, 1
	case is:
		return first, n, 0
	case also:
		return second, m, 1
	}
	return "", 0, -1
}

// saves are the Writes of a Save.
func (s *sheet) saves(b string) []goes {
	_, counter, at := s.keeps()
	from := 0
	if at == 0 {
		from = s.size() / page
	}
	l := []goes{{from, filled("", 1)}}
	whole := filled(b, (len(b)+page-1)/page)
	for i := 0; i < len(whole); i += page {
		l = append(l, goes{from + 1 + i/page, whole[i : i+page]})
	}
	return append(l, goes{from, headed(counter%65535+1, uint32(len(b)), b)})
}

func (s *sheet) save(b string) api.Errno {
	switch {
	case len(b) > s.size()-page:
		return api.ErrLong
	case s.dead:
		return api.ErrState
	}
	return state(s.all(s.saves(b)...))
}

func (s *sheet) erase() api.Errno {
	return state(s.all(goes{0, filled("", 1)}, goes{s.size() / page, filled("", 1)}))
}

func state(all bool) api.Errno {
	if all {
		return api.OK
	}
	return api.ErrState
}

// made is a chip that must be made.
func made(t *testing.T, pages int) *Chip {
	t.Helper()
	c, err := New(pages)
	if c == nil || err != api.OK {
		t.Fatalf("New(%d): %v %d", pages, c, err)
	}
	return c
}

// laid is a chip with power whose pages have a text's bytes, and its sheet.
func laid(t *testing.T, text string) (*Chip, *sheet) {
	t.Helper()
	c := made(t, len(text)/page)
	for i := range c.Pages() {
		wantWrite(t, c, i, text[i*page:(i+1)*page], true)
	}
	return c, &sheet{text: text}
}

// all is the bytes of all pages.
func all(c *Chip) string {
	var b strings.Builder
	for i := range c.Pages() {
		p := c.Read(i)
		b.Write(p[:])
	}
	return b.String()
}

func wantWrite(t *testing.T, c *Chip, at int, b string, want bool) {
	t.Helper()
	if is := c.Write(at, [8]byte([]byte(b))); is != want {
		t.Fatalf("Write(%d, %x): %v, want %v", at, b, is, want)
	}
}

func wantRead(t *testing.T, c *Chip, at int, want string) {
	t.Helper()
	if b := c.Read(at); string(b[:]) != want {
		t.Fatalf("Read(%d): %x, want %x", at, b, want)
	}
}

func wantDead(t *testing.T, c *Chip, want bool) {
	t.Helper()
	if c.Dead() != want {
		t.Fatalf("Dead: %v, want %v", c.Dead(), want)
	}
}

func wantPages(t *testing.T, c *Chip, want string) {
	t.Helper()
	got := all(c)
	if len(got) != len(want) {
		t.Fatalf("%d pages, want %d", len(got)/page, len(want)/page)
	}
	for i := 0; i < len(got); i += page {
		if got[i:i+page] != want[i:i+page] {
			t.Fatalf("page %d: %x, want %x", i/page, got[i:i+page], want[i:i+page])
		}
	}
}

func wantSave(t *testing.T, c *Chip, b string, want api.Errno) {
	t.Helper()
	if err := Save(c, []byte(b)); err != want {
		t.Fatalf("Save(%s): %d, want %d", short(b), err, want)
	}
}

func wantErase(t *testing.T, c *Chip, want api.Errno) {
	t.Helper()
	if err := Erase(c); err != want {
		t.Fatalf("Erase: %d, want %d", err, want)
	}
}

func wantLoad(t *testing.T, c *Chip, want string) {
	t.Helper()
	if b, is := Load(c); string(b) != want || !is {
		t.Fatalf("Load: %s %v, want %s", short(string(b)), is, short(want))
	}
}

func wantNone(t *testing.T, c *Chip) {
	t.Helper()
	if b, is := Load(c); len(b) != 0 || is {
		t.Fatalf("Load: %s %v, want none", short(string(b)), is)
	}
}

// wantKept looks whether a chip keeps what a sheet does.
func wantKept(t *testing.T, c *Chip, s *sheet) {
	t.Helper()
	if b, _, at := s.keeps(); at >= 0 {
		wantLoad(t, c, b)
	} else {
		wantNone(t, c)
	}
}

// wantSame looks whether a chip is as its sheet says, without changing it.
func wantSame(t *testing.T, c *Chip, s *sheet) {
	t.Helper()
	wantPages(t, c, s.text)
	wantDead(t, c, s.dead)
	wantKept(t, c, s)
	wantPages(t, c, s.text)
	wantDead(t, c, s.dead)
}

func short(b string) string {
	if len(b) > 40 {
		return strconv.Quote(b[:40]) + ".."
	}
	return strconv.Quote(b)
}
