package block

import (
	"fmt"
	"slices"
	"strings"
	"testing"

	"tramway/api"
)

// P12.1: more than MaxBytes are too many; just so many are well.
func TestNewSender(t *testing.T) {
	for _, n := range []int{most + 1, most + 7, 2 * most} {
		if s, err := NewSender(make([]byte, n)); s != nil || err != api.ErrLong {
			t.Errorf("%d bytes: %v %d", n, s, err)
		}
	}
	for _, n := range []int{0, 1, most - 1, most} {
		if s, err := NewSender(make([]byte, n)); s == nil || err != api.OK {
			t.Errorf("%d bytes: %v %d", n, s, err)
		}
	}
}

// P12.1: sizes at their edges, and beyond; who was refused has not begun.
func TestBegin(t *testing.T) {
	const wide = 1 << 32
	for _, n := range []int{0, 1, 7, 8, 50, 2000} {
		for _, size := range []int{1, 2, 3, 64, 126, 127} {
			k := sendingOf(t, strings.Repeat("a", n))
			for _, wrong := range []int{0, -1, 128, 129, 255, 256, 257, -127, wide + 1, -wide + 1, 1<<63 - 1, -1 << 63} {
				if err := k.begin(wrong); err != api.ErrArg {
					t.Fatalf("Begin(%d): %d", wrong, err)
				}
			}
			if err := k.begin(size); err != api.OK {
				t.Fatalf("Begin(%d): %d", size, err)
			}
		}
	}
}

// P12.1: who has begun can't begin, wherever it is, and whatever the size; what goes on is not touched.
func TestBeginTwice(t *testing.T) {
	for i, x := range places {
		if x.size == 0 {
			continue
		}
		for _, size := range []int{0, 1, 127, 128, -1} {
			k := inPlace(t, i)
			if err := k.begin(size); err != api.ErrState {
				t.Fatalf("%s: %d", x.name, err)
			}
			k.feed(hexed("a2 01 05"))
			k.feed(hexed("a1"))
		}
	}
}

// P12.1: the first blocks, told by hand.
func TestFirstBlocks(t *testing.T) {
	for _, x := range []struct {
		b    string
		size int
		want string
	}{
		{"", 1, "81"},
		{"", 127, "81"},
		{"A", 5, "81 41"},
		{"ABCDEFG", 5, "81 41 42 43 44 45 46 47"},
		{"ABCDEFGH", 1, "01 41 42 43 44 45 46 47"},
		{"ABCDEFGH", 2, "01 41 42 43 44 45 46 47,82 48"},
		{"ABCDEFGH", 3, "01 41 42 43 44 45 46 47,82 48"},
		{"ABCDEFGHIJKLMN", 2, "01 41 42 43 44 45 46 47,82 48 49 4a 4b 4c 4d 4e"},
		{"ABCDEFGHIJKLMNO", 2, "01 41 42 43 44 45 46 47,02 48 49 4a 4b 4c 4d 4e"},
		{"ABCDEFGHIJKLMNO", 3, "01 41 42 43 44 45 46 47,02 48 49 4a 4b 4c 4d 4e,83 4f"},
	} {
		var want []string
		for _, f := range strings.Split(x.want, ",") {
			want = append(want, hexed(f))
		}
		s, _ := NewSender([]byte(x.b))
		if l, err := s.Begin(x.size); err != api.OK || !slices.Equal(strung(l), want) {
			t.Errorf("%q, size %d: % x %d", x.b, x.size, l, err)
		}
	}
}

// P12.1: a block of 127 has the numbers up to 127, and ff is a last one of that number.
func TestGreatestBlock(t *testing.T) {
	for _, n := range []int{126*7 + 1, 127 * 7, 127*7 + 1} {
		s, _ := NewSender(make([]byte, n))
		l, _ := s.Begin(127)
		if len(l) != 127 || l[125] != [8]byte{126} || l[126][0] != 127 && n > 127*7 || l[126][0] != 255 && n <= 127*7 {
			t.Errorf("%d bytes: %d frames, % x", n, len(l), l[len(l)-1])
		}
	}
}

// P12.2: answers by hand: all came, some, none; the next block's size is the answer's.
func TestBlocksByHand(t *testing.T) {
	k := sendingOf(t, "ABCDEFGHIJKLMNO")
	k.begin(2)
	k.feeds(
		"a2 00 01:01 41 42 43 44 45 46 47",
		"a2 00 03:01 41 42 43 44 45 46 47,02 48 49 4a 4b 4c 4d 4e,83 4f",
		"a2 01 01:01 48 49 4a 4b 4c 4d 4e",
		"a2 01 7f:81 4f",
		"a2 00 7f:81 4f",
		"a2 01 7f:d9 "+fmt.Sprintf("%x", sumOf("ABCDEFGHIJKLMNO")),
		"a1",
	)
	k.wantCode(api.Fine)
}

// P12.2: the end: how many noughts were filled up, and the sum, lowest first; a sum that others tell: of 123456789 it is 31c3.
func TestEnds(t *testing.T) {
	for _, x := range []struct{ b, last, want string }{
		{"", "81", "dd 00 00"},
		{"\x00", "81", "d9 00 00"},
		{"\x00\x00\x00\x00\x00\x00\x00", "81", "c1 00 00"},
		{"\x01", "81 01", "d9 21 10"},
		{"123456789", "82 38 39", "d5 c3 31"},
	} {
		k := sendingOf(t, x.b)
		k.begin(127)
		k.feeds("a2 0"+x.last[1:2]+" 01:"+x.want, "a1")
		k.wantCode(api.Fine)
	}
	for n := range 30 {
		b := strings.Repeat("a", n)
		k := sendingOf(t, b)
		k.begin(127)
		first := byte(0xdd - 4*(n-7*max(0, (n-1)/7)))
		if l := k.feed(framed(0xa2, string([]byte{byte(len(cut(b))), 1}))); l[0] != framed(int(first), sumOf(b)) {
			t.Errorf("%d bytes: % x", n, l)
		}
	}
}

// P12.2: of several faults the first one: the command, more than the block had, the size; each at its edges.
func TestGivenUp(t *testing.T) {
	for _, x := range []struct {
		a    string
		code uint32
	}{
		{"a2 03 01", api.BadSeq}, {"a2 ff 01", api.BadSeq}, {"a2 03 00", api.BadSeq}, {"a2 83 80", api.BadSeq},
		{"a2 02 00", api.BadBlock}, {"a2 00 80", api.BadBlock}, {"a2 01 ff", api.BadBlock}, {"a2 00 00", api.BadBlock},
		{"a1 03 00", api.NoCommand}, {"a3 01 01", api.NoCommand}, {"a0 01 01", api.NoCommand}, {"22 01 01", api.NoCommand}, {"e2 01 01", api.NoCommand}, {"00", api.NoCommand},
	} {
		k := sendingOf(t, "ABCDEFGHIJKLMNO")
		k.begin(2)
		if l := k.feed(hexed(x.a)); !slices.Equal(l, []string{given(x.code)}) {
			t.Errorf("%s: % x", x.a, l)
		}
		k.wantCode(x.code)
		k.feeds("a2 01 01", "a1", "80 00 00 00 01")
		k.wantCode(x.code)
	}
	// The last block is shorter than its size: it is the segments that it had that count. A size is looked at, though no block follows.
	for _, x := range []struct{ a, want string }{
		{"a2 02 05", "80 00 00 00 03 00 04 05"}, {"a2 05 05", "80 00 00 00 03 00 04 05"}, {"a2 01 00", "80 00 00 00 02 00 04 05"}, {"a2 01 80", "80 00 00 00 02 00 04 05"},
	} {
		k := sendingOf(t, "ABCDEFGHIJKLMNO")
		k.begin(2)
		k.feed(hexed("a2 02 05"))
		k.feeds(x.a + ":" + x.want)
	}
	// At the end an answer to a block is another one, too.
	for _, a := range []string{"a2 02 02", "a0", "a3", "a9", "21", "00", "c1", "ff"} {
		k := sendingOf(t, "ABCDEFGH")
		k.begin(2)
		k.feed(hexed("a2 02 02"))
		k.feeds(a + ":80 00 00 00 01 00 04 05")
		k.wantCode(api.NoCommand)
	}
}

// Where a sender may be: the size it began with (0: it has not), and the answers that came.
var places = []struct {
	name    string
	size    int
	answers []string
	waits   bool
}{
	{"new", 0, nil, false},
	{"first block", 2, nil, true},
	{"first block again", 2, []string{"a2 00 04"}, true},
	{"second block", 2, []string{"a2 01 04"}, true},
	{"last block", 2, []string{"a2 02 04", "a2 04 05"}, true},
	{"all in one", 127, nil, true},
	{"end", 127, []string{"a2 09 01"}, true},
	{"done", 127, []string{"a2 09 01", "a1"}, false},
	{"aborted", 2, []string{"80 00 00 00 01"}, false},
	{"aborted at the end", 127, []string{"a2 09 01", "80 00 00 00 05 04 03 02"}, false},
	{"given up", 2, []string{"a2 03 01"}, false},
	{"given up at the end", 127, []string{"a2 09 01", "a2 09 01"}, false},
}

// nine is the bytes of nine segments.
const nine = "some bytes that are sent in blocks: they are nine segments."

// inPlace is a sender of nine segments that is in the ith of places.
func inPlace(t *testing.T, i int) *sending {
	t.Helper()
	x := places[i]
	k := sendingOf(t, nine)
	if x.size > 0 {
		k.begin(x.size)
	}
	for _, a := range x.answers {
		k.feed(hexed(a))
	}
	if _, done := k.s.Done(); done != (x.size > 0 && !x.waits) || len(cut(nine)) != 9 {
		t.Fatalf("%s: done %v", x.name, done)
	}
	return k
}

// P12.2: each byte 0, each byte 1, each byte 2, wherever the sender is.
func TestEachAnswer(t *testing.T) {
	for i := range places {
		for n := range 256 {
			for _, low := range []string{"", "\x01", "\x09\x01", "\x02\x7f", "\x01\x80", "\x0a\x05", "\xff\xff\xff\xff\xff\xff\xff"} {
				inPlace(t, i).feed(framed(n, low))
			}
			for _, edge := range []int{0, 1, 2, 9, 10, 127, 128} {
				inPlace(t, i).feed(framed(0xa2, string([]byte{byte(n), byte(edge)})))
				inPlace(t, i).feed(framed(0xa2, string([]byte{byte(edge), byte(n)})))
			}
		}
	}
}

// P12.2: who does not wait tells nothing, and stays as it is.
func TestWaitsNot(t *testing.T) {
	for i, x := range places {
		if x.waits {
			continue
		}
		k := inPlace(t, i)
		code, done := k.s.Done()
		for n := range 256 {
			if l := k.feed(framed(n, "\x01\x01", "\x01\x02\x03\x04")); len(l) != 0 {
				t.Fatalf("%s, %x: % x", x.name, n, l)
			}
		}
		if c, is := k.s.Done(); c != code || is != done {
			t.Errorf("%s: %x %v", x.name, c, is)
		}
		if err := k.begin(2); (err == api.OK) != (x.size == 0) {
			t.Errorf("%s: %d", x.name, err)
		}
	}
}

// P12.2, P12.9: an abort ends a sender that waits with its code, whatever the low bits and the place; nothing is told.
func TestAbortedSender(t *testing.T) {
	for i, x := range places {
		if !x.waits {
			continue
		}
		for low := range 32 {
			for _, code := range []uint32{api.Fine, 1, api.NoMemory, 0x12345678, 0xffffffff} {
				k := inPlace(t, i)
				if l := k.feed(framed(0x80+low, "\x01\x02\x03", four(code))); len(l) != 0 {
					t.Fatalf("%s: % x", x.name, l)
				}
				k.wantCode(code)
			}
		}
	}
}

// P12.1, P12.2: what stands in an answer beside the bytes that are named plays no part.
func TestWhateverElseIsInAnswers(t *testing.T) {
	k := sendingOf(t, nine)
	k.begin(5)
	k.feeds(
		"a2 05 06 ff ff ff ff ff:01 "+fmt.Sprintf("%x", nine[35:42])+",02 "+fmt.Sprintf("%x", nine[42:49])+",03 "+fmt.Sprintf("%x", nine[49:56])+",84 "+fmt.Sprintf("%x", nine[56:]),
		"a2 04 01 01 02 03 04 05:"+fmt.Sprintf("%x", ending(nine)),
		"a1 01 02 03 04 05 06 07",
	)
	k.wantCode(api.Fine)
}

// P12.1, P12.2: runs of answers, held against a twin behind each.
func TestSenderRuns(t *testing.T) {
	d := dice(121)
	ended := map[uint32]int{}
	for range 2000 {
		k := sendingOf(t, d.bytes(d.below(300)))
		for range 1 + d.below(40) {
			switch {
			case k.twin.size == 0 && d.once(2), d.once(30):
				k.begin(1 + d.below(12))
			case d.once(40):
				k.feed(d.bytes(8))
			case d.once(60):
				k.feed(framed(0x80, d.bytes(7)))
			case d.once(20), k.atEnd():
				k.feed(framed(0xa1 + d.below(20)/19))
			default:
				k.feed(framed(0xa2, string([]byte{byte(d.below(5)), byte(4 + d.below(13))})))
			}
		}
		if code, done := k.s.Done(); done {
			ended[code]++
		}
	}
	for _, code := range []uint32{api.Fine, api.NoCommand, api.BadSeq} {
		if ended[code] < 50 {
			t.Errorf("too few ended with %x: %d", code, ended[code])
		}
	}
}

// atEnd tells whether the twin waits for the answer to the end.
func (k *sending) atEnd() bool {
	l, _, _ := k.twin.tells()
	return len(l) == 1 && l[0] == ending(k.twin.all)
}

// Memory: the bytes are neither changed nor kept, and frames that were told are the caller's own.
func TestSendersMemory(t *testing.T) {
	room := []byte(nine + "and what stands behind")
	before := string(room)
	s, _ := NewSender(room[:len(nine)])
	twin := sendTwin{all: nine, size: 4}
	look := func(l [][8]byte) {
		t.Helper()
		if want, _, _ := twin.tells(); !slices.Equal(strung(l), want) {
			t.Fatalf("% x, want % x", l, want)
		}
		scribble(l, [8]byte{1, 2, 3, 4, 5, 6, 7, 8})
	}
	l, _ := s.Begin(4)
	if string(room) != before {
		t.Fatalf("changed: %q", room)
	}
	scribble(room, 'x')
	look(l)
	for _, a := range []string{"a2 00 04", "a2 01 04", "a2 04 03", "a2 01 05", "a2 02 01", "a2 01 01", "a1"} {
		twin.list = append(twin.list, hexed(a))
		look(s.Feed(arrayOf(hexed(a))))
	}
	if string(room) != strings.Repeat("x", len(room)) {
		t.Errorf("changed: %q", room)
	}
	if code, done := s.Done(); code != api.Fine || !done {
		t.Errorf("%x %v", code, done)
	}
}
