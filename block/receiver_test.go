package block

import (
	"fmt"
	"strings"
	"testing"

	"tramway/api"
	"tramway/bits"
)

// P12.3: sizes at their edges, and beyond.
func TestNewReceiver(t *testing.T) {
	const wide = 1 << 32
	for _, size := range []int{0, -1, 128, 129, 255, 256, 257, -127, wide + 1, -wide + 1, 1<<63 - 1, -1 << 63} {
		if r, err := NewReceiver(size); r != nil || err != api.ErrArg {
			t.Errorf("NewReceiver(%d): %v %d", size, r, err)
		}
	}
	for size := 1; size <= 127; size++ {
		k := takingOf(t, size)
		if a := k.ask(); a != (said{framed(0xa2, "\x00", string([]byte{byte(size)})), true}) {
			t.Errorf("NewReceiver(%d): % x %v", size, a.frame, a.is)
		}
	}
}

// The chapter's example, and that of the whole: 8 bytes, size 4.
func TestExample(t *testing.T) {
	s, _ := NewSender([]byte("12345678"))
	l, err := s.Begin(4)
	if err != api.OK || len(l) != 2 || l[0] != [8]byte{0x01, '1', '2', '3', '4', '5', '6', '7'} || l[1] != [8]byte{0x82, '8'} {
		t.Fatalf("% x %d", l, err)
	}
	k := takingOf(t, 4)
	k.feeds("01 31 32 33 34 35 36 37", "82 38:a2 02 04")
	l = s.Feed([8]byte{0xa2, 0x02, 0x04})
	sum := bits.CRC16([]byte("12345678"))
	if len(l) != 1 || l[0] != [8]byte{0xd9, byte(sum), byte(sum >> 8)} {
		t.Fatalf("% x", l)
	}
	k.feeds(fmt.Sprintf("%x:a1", l[0]))
	k.wantOutcome("12345678", api.Fine)
}

// P12.3: blocks by hand: what is not next is passed over; a full block is answered, and so is the last one of all.
func TestTakenByHand(t *testing.T) {
	k := takingOf(t, 2)
	k.feeds(
		"02 78", "00 78", "80 78", "82 78", "ff 78",
		"01 41 42 43 44 45 46 47", "01 78", "81 78", "03 78",
		"02 48 49 4a 4b 4c 4d 4e:a2 02 02",
		"02 78", "03 78", "82 78", "83 78",
		"01 4f 50 51 52 53 54 55",
		"82 56:a2 02 02",
	)
	k.feeds(fmt.Sprintf("%x:a1", ending("ABCDEFGHIJKLMNOPQRSTUV")))
	k.wantOutcome("ABCDEFGHIJKLMNOPQRSTUV", api.Fine)
}

// P12.3: the last one of all is that whether its block is full or not; of a full one that is not it, another block follows.
func TestLastOfAll(t *testing.T) {
	for size := 1; size <= 5; size++ {
		for n := 1; n <= size; n++ {
			k := takingOf(t, size)
			for i := 1; i < n; i++ {
				k.feed(framed(i, "seven.."))
			}
			if a := k.feed(framed(128+n, "the end")); a != (said{framed(0xa2, string([]byte{byte(n), byte(size)})), true}) {
				t.Errorf("%d of %d: % x %v", n, size, a.frame, a.is)
			}
			all := strings.Repeat("seven..", n-1) + "the end"
			if a := k.feed(framed(0xc1, sumOf(all))); a != (said{framed(0xa1), true}) {
				t.Errorf("%d of %d: % x %v", n, size, a.frame, a.is)
			}
			k.wantOutcome(all, api.Fine)
		}
	}
	k := takingOf(t, 127)
	for i := 1; i < 127; i++ {
		if a := k.feed(framed(i)); a != none {
			t.Fatalf("%d: % x", i, a.frame)
		}
	}
	k.feeds("7f:a2 7f 7f", "7f", "ff", "01", "82:a2 02 7f")
}

// P12.4: Ask tells how many came in this block, and the next segment is number 1.
func TestAsk(t *testing.T) {
	k := takingOf(t, 4)
	k.feeds(
		"?:a2 00 04", "?:a2 00 04",
		"01 41 42 43 44 45 46 47", "02 48 49 4a 4b 4c 4d 4e", "04 78",
		"?:a2 02 04",
		"03 78", "04 78", "83 78",
		"01 4f 50 51 52 53 54 55",
		"?:a2 01 04", "?:a2 00 04",
		"02 78",
		"01 56 57 58 59 5a 61 62", "02 63 64 65 66 67 68 69", "03 6a 6b 6c 6d 6e 6f 70",
		"04 71 72 73 74 75 76 77:a2 04 04",
		"?:a2 00 04",
		"01 78 79 7a 30 31 32 33", "02 34 35 36 37 38 39 2e",
		"83 2e:a2 03 04",
		"?:a2 03 04", "?:a2 03 04",
	)
	const all = "ABCDEFGHIJKLMNOPQRSTUVWXYZabcdefghijklmnopqrstuvwxyz0123456789.."
	k.feeds(fmt.Sprintf("%x:a1", ending(all)), "?")
	k.wantOutcome(all, api.Fine)
}

// P12.3, P12.4: done it answers nothing, whatever it is done with, and stays so.
func TestDoneAnswersNothing(t *testing.T) {
	for i, x := range spots {
		if !x.done {
			continue
		}
		k := inSpot(t, i)
		b, code, _ := k.r.Done()
		for n := range 256 {
			if k.feed(framed(n, "\x01\x02\x03\x04\x05\x06\x07")) != none || k.ask() != none {
				t.Fatalf("%s, %x: an answer", x.name, n)
			}
		}
		k.wantOutcome(string(b), code)
	}
}

// Where a receiver of size 3 may be: the frames that came.
var spots = []struct {
	name   string
	frames []string
	done   bool
	end    bool // it waits for it
}{
	{"new", nil, false, false},
	{"one came", []string{"01 41 42 43 44 45 46 47"}, false, false},
	{"two came", []string{"01 41 42 43 44 45 46 47", "02 48"}, false, false},
	{"a block came", []string{"01 41 42 43 44 45 46 47", "02 48", "03 49"}, false, false},
	{"asked", []string{"01 41 42 43 44 45 46 47", "02 48", "?"}, false, false},
	{"one behind a block", []string{"01 41", "02 42", "03 43", "01 44"}, false, false},
	{"end of one", []string{"81 41 42"}, false, true},
	{"end of noughts", []string{"81"}, false, true},
	{"end of two", []string{"01 41 42 43 44 45 46 47", "82 48"}, false, true},
	{"end of a full block", []string{"01 41", "02 42", "83 43"}, false, true},
	{"end behind a block", []string{"01 41", "02 42", "03 43", "81 44"}, false, true},
	{"end, asked", []string{"01 41", "?", "81 44", "?"}, false, true},
	{"done with none", []string{"81", "dd"}, true, false},
	{"done with seven noughts", []string{"81", "c1"}, true, false},
	{"another sum", []string{"81", "dd 01"}, true, false},
	{"aborted", []string{"81 41", "80 00 00 00 01 02 03 04"}, true, false},
	{"aborted with Fine", []string{"81 41", "80"}, true, false},
}

// inSpot is a receiver in the ith of spots.
func inSpot(t *testing.T, i int) *taking {
	t.Helper()
	k := takingOf(t, 3)
	for _, f := range spots[i].frames {
		if f == "?" {
			k.ask()
		} else {
			k.feed(hexed(f))
		}
	}
	if _, _, done := k.r.Done(); done != spots[i].done {
		t.Fatalf("%s: done %v", spots[i].name, done)
	}
	return k
}

// takenIn is the bytes of all segments of the ith of spots.
func takenIn(i int) string {
	all := ""
	for _, f := range spots[i].frames {
		if f != "?" {
			all += hexed(f)[1:]
		}
	}
	return all
}

// P12.3: each byte 0, with sums that are so and others, wherever the receiver is.
func TestEachFrame(t *testing.T) {
	for i := range spots {
		all := takenIn(i)
		rests := []string{"", "\x01\x00", "\xff\xff\xff\xff\xff\xff\xff", "\x01\x02\x03\x04\x05\x06\x07"}
		for spare := range min(8, len(all)+1) {
			sum := sumOf(all[:len(all)-spare])
			rests = append(rests, sum, string([]byte{sum[1], sum[0]}), string([]byte{sum[0] ^ 0x80, sum[1]}), string([]byte{sum[0], sum[1] ^ 1}))
		}
		for n := range 256 {
			for _, rest := range rests {
				k := inSpot(t, i)
				k.feed(framed(n, rest))
				k.ask()
			}
		}
	}
}

// P12.3: each number of noughts at the end: the bytes are those ahead, by their sum; bit 1 and what stands behind the sum play no part.
func TestEndsThatAreTaken(t *testing.T) {
	const all = "ABCDEFGHIJKLMN"
	for spare := range 8 {
		for _, bit := range []int{0, 2} {
			k := takingOf(t, 5)
			k.feeds("01 41 42 43 44 45 46 47", "82 48 49 4a 4b 4c 4d 4e:a2 02 05")
			want := all[:len(all)-spare]
			if a := k.feed(framed(0xc1+bit+4*spare, sumOf(want), "\x01\x02\x03\x04\x05")); a != (said{framed(0xa1), true}) {
				t.Errorf("%d: % x %v", spare, a.frame, a.is)
			}
			k.wantOutcome(want, api.Fine)
		}
	}
}

// P12.3: a sum that is another one in whichever bit; that of other bytes; the high byte first.
func TestBadCRC(t *testing.T) {
	const all = "ABCDEFGHI"
	sum := bits.CRC16([]byte(all))
	wrong := []uint16{0, sum<<8 | sum>>8, bits.CRC16([]byte(all + "\x00")), bits.CRC16([]byte(all[:8]))}
	for bit := range 16 {
		wrong = append(wrong, sum^1<<bit)
	}
	for _, n := range wrong {
		k := takingOf(t, 5)
		k.feeds("01 41 42 43 44 45 46 47", "82 48 49:a2 02 05")
		k.feeds(fmt.Sprintf("d5%02x%02x:80 00 00 00 04 00 04 05", byte(n), byte(n>>8)))
		k.wantOutcome("", api.BadCRC)
	}
}

// P12.3: while it waits for the end other frames are passed over, and it waits on.
func TestPassedOverAtTheEnd(t *testing.T) {
	for i, x := range spots {
		if !x.end {
			continue
		}
		k := inSpot(t, i)
		last := k.ask()
		for n := range 256 {
			if n/32 == 4 || n/32 == 6 && n%2 == 1 {
				continue
			}
			if a := k.feed(framed(n, "\x01\x02\x03\x04\x05\x06\x07")); a != none {
				t.Fatalf("%s, %x: % x", x.name, n, a.frame)
			}
		}
		if a := k.ask(); a != last {
			t.Errorf("%s: % x, want % x", x.name, a.frame, last.frame)
		}
	}
}

// P12.3, P12.9: an abort ends a receiver that waits for the end, with its code and no bytes, whatever the low bits and the place; nothing is answered. One that takes segments it does not end.
func TestAbortedReceiver(t *testing.T) {
	for i, x := range spots {
		if x.done {
			continue
		}
		for _, code := range []uint32{api.Fine, 1, api.NoMemory, 0x12345678, 0xffffffff} {
			for low := range 32 {
				if low > 0 && !x.end {
					continue
				}
				k := inSpot(t, i)
				if a := k.feed(framed(0x80+low, "\x01\x02\x03", four(code))); a != none {
					t.Fatalf("%s: % x", x.name, a.frame)
				}
				if x.end {
					k.wantOutcome("", code)
				} else if _, _, done := k.r.Done(); done {
					t.Fatalf("%s: done", x.name)
				}
			}
		}
	}
}

// filled is a receiver of size 127 to which so many segments came, and the numbers of the block in which it is.
func filled(t *testing.T, n int) (*Receiver, int) {
	t.Helper()
	r, _ := NewReceiver(127)
	for i := range n {
		a, is := r.Feed([8]byte{byte(i%127 + 1), 1, 2, 3, 4, 5, 6, 7})
		if full := i%127 == 126; is != full || full && a != [8]byte{0xa2, 127, 127} || !full && a != [8]byte{} {
			t.Fatalf("segment %d: % x %v", i, a, is)
		}
	}
	return r, n % 127
}

// P12.3: more than MaxBytes and 7: NoMemory, whether it is the last one of all or fills a block; just so many segments are well.
func TestNoMemory(t *testing.T) {
	const segments = (most + 7) / 7
	for _, last := range []byte{0, 128} {
		r, n := filled(t, segments)
		if a, is := r.Feed([8]byte{byte(n + 2), 1}); is || a != [8]byte{} {
			t.Fatalf("not the next one: % x %v", a, is)
		}
		a, is := r.Feed([8]byte{last + byte(n+1)})
		if string(a[:]) != hexed("80 00 00 00 05 00 04 05") || !is {
			t.Errorf("% x %v", a, is)
		}
		if b, code, done := r.Done(); len(b) != 0 || code != api.NoMemory || !done {
			t.Errorf("%d bytes %x %v", len(b), code, done)
		}
		if a, is := r.Ask(); is || a != [8]byte{} {
			t.Errorf("Ask: % x %v", a, is)
		}
	}
	// A segment ahead of that one the receiver has room, and the last one of all may come.
	r, n := filled(t, segments-1)
	if a, is := r.Feed([8]byte{128 + byte(n+1)}); a != [8]byte{0xa2, byte(n + 1), 127} || !is {
		t.Errorf("% x %v", a, is)
	}
	// It fills a block of 1.
	r, _ = NewReceiver(1)
	for range segments {
		if a, is := r.Feed([8]byte{1}); a != [8]byte{0xa2, 1, 1} || !is {
			t.Fatalf("% x %v", a, is)
		}
	}
	if a, _ := r.Feed([8]byte{1}); string(a[:]) != hexed("80 00 00 00 05 00 04 05") {
		t.Errorf("% x", a)
	}
}

// P12.3: of all the segments there may be as many bytes are taken as MaxBytes; one more is as another sum.
func TestAsManyAsThereMayBe(t *testing.T) {
	const segments = (most + 7) / 7
	all := strings.Repeat("\x01\x02\x03\x04\x05\x06\x07", segments)
	for spare := range 8 {
		r, n := filled(t, segments-1)
		r.Feed([8]byte{128 + byte(n+1), 1, 2, 3, 4, 5, 6, 7})
		want := all[:len(all)-spare]
		a, is := r.Feed(arrayOf(framed(0xc1+4*spare, sumOf(want))))
		b, code, done := r.Done()
		switch {
		case len(want) <= most && (a != [8]byte{0xa1} || !is || string(b) != want || code != api.Fine || !done):
			t.Errorf("%d bytes: % x %v, %d bytes %x %v", len(want), a, is, len(b), code, done)
		case len(want) > most && (string(a[:]) != given(api.BadCRC) || !is || len(b) != 0 || code != api.BadCRC || !done):
			t.Errorf("%d bytes: % x %v, %d bytes %x %v", len(want), a, is, len(b), code, done)
		}
	}
}

// P12.3, P12.4: runs of frames, held against a twin behind each.
func TestReceiverRuns(t *testing.T) {
	d := dice(123)
	ended := map[uint32]int{}
	for range 3000 {
		k := takingOf(t, 1+d.below(6))
		n := 1
		for range 1 + d.below(40) {
			var a said
			switch {
			case d.once(12):
				a = k.ask()
			case d.once(15):
				a = k.feed(d.bytes(8))
			case d.once(10):
				a = k.feed(framed(d.below(8)+128*d.below(2), d.bytes(7)))
			case d.once(15):
				a = k.feed(framed(128+n, d.bytes(7)))
			case d.once(15):
				a = k.feed(k.properEnd(d.below(8)))
			case d.once(30):
				a = k.feed(framed(0xc1+4*d.below(8), d.bytes(2)))
			case d.once(60):
				a = k.feed(framed(0x80, d.bytes(7)))
			default:
				a = k.feed(framed(n, d.bytes(7)))
				n++
			}
			if a.is {
				n = 1
			}
		}
		if _, code, done := k.r.Done(); done {
			ended[code]++
		}
	}
	for _, code := range []uint32{api.Fine, api.BadCRC} {
		if ended[code] < 50 {
			t.Errorf("too few ended with %x: %d", code, ended[code])
		}
	}
}

// properEnd is an end that the receiver takes, if it waits for it.
func (k *taking) properEnd(spare int) string {
	b := string(k.r.bytes)
	spare = min(spare, len(b))
	return framed(0xc1+4*spare, sumOf(b[:len(b)-spare]))
}

// Memory: what Done tells is the caller's own, each time.
func TestReceiversMemory(t *testing.T) {
	for _, all := range []string{"a", "ABCDEFG", nine} {
		r, _ := NewReceiver(127)
		for _, f := range numbered(cut(all), 127) {
			r.Feed(arrayOf(f))
		}
		r.Feed(arrayOf(ending(all)))
		var lists [][]byte
		for range 4 {
			b, code, done := r.Done()
			if string(b) != all || code != api.Fine || !done {
				t.Fatalf("%q %x %v, want %q", b, code, done, all)
			}
			lists = append(lists, b)
			for _, l := range lists[:len(lists)-1] {
				scribble(l, 'x')
			}
			if string(b) != all {
				t.Fatalf("shared: %q", b)
			}
			scribble(b, 'y')
		}
	}
}
