package client

import (
	"strings"
	"testing"

	"tramway/api"
)

// P11.2: each byte 0, at the place and at others, with numbers behind it at their edges, wherever the client is.
func TestEachAnswer(t *testing.T) {
	places := []string{"\x34\x12\x56", "\x35\x12\x56", "\x34\x13\x56", "\x34\x12\x57", "\x12\x34\x56", "\x00\x00\x00", "\xb4\x12\x56", "\x34\x92\x56", "\x34\x12\xd6"}
	numbers := []uint32{0, 1, 9, 16, most, most + 1, 0x01000000, api.NoToggle, 0xffffffff}
	for i := range states {
		for first := range 256 {
			for _, at := range places {
				for _, n := range numbers {
					k := inState(t, i)
					k.feed(framed(byte(first), at, four(n)))
					if !k.c.Busy() {
						k.result()
					}
				}
			}
		}
	}
}

// P11.2: who asks nothing takes nothing, and keeps its result.
func TestNotBusyTakesNothing(t *testing.T) {
	for i, x := range states {
		if x.busy {
			continue
		}
		k := inState(t, i)
		for first := range 256 {
			if a := k.feed(framed(byte(first), placed(0x1234, 0x56), four(5))); a != none {
				t.Fatalf("%s, %x: % x %v", x.name, first, a.frame, a.is)
			}
		}
		k.result()
	}
}

// P11.2: an abort ends what is asked with its code, at whichever place, whatever the low bits; nothing is sent. One with the code Fine has no bytes either.
func TestAbortThatComes(t *testing.T) {
	for i, x := range states {
		if !x.busy {
			continue
		}
		for low := range 32 {
			for _, code := range []uint32{api.Fine, 1, api.NoObject, api.TimedOut, 0x12345678, 0xffffffff} {
				k := inState(t, i)
				if a := k.feed(framed(byte(0x80+low), "\x01\x02\x03", four(code))); a != none || k.c.Busy() {
					t.Fatalf("%s: % x %v", x.name, a.frame, a.is)
				}
				k.wantResult(code, "")
			}
		}
	}
}

// P11.2: a command that it does not wait for gives up at the client's own place, whatever else stands in it.
func TestNoCommand(t *testing.T) {
	for i, x := range states {
		if !x.busy {
			continue
		}
		for first := range 256 {
			if high := byte(first / 32); high == 4 || high == x.high {
				continue
			}
			for _, at := range []string{"\x34\x12\x56", "\x01\x02\x03"} {
				k := inState(t, i)
				if a := k.feed(framed(byte(first), at, "\x04\x03\x02\x01")); a != (said{hexed("80 34 12 56 01 00 04 05"), true}) || k.c.Busy() {
					t.Errorf("%s, %x: % x %v", x.name, first, a.frame, a.is)
				}
				k.wantResult(api.NoCommand, "")
			}
		}
	}
}

// P11.2: the answer to a first frame has its place, in each of its bytes; to a segment it has none.
func TestAtAnotherPlace(t *testing.T) {
	for i, x := range states {
		if !x.busy {
			continue
		}
		first := x.high * 32
		if x.high < 2 {
			first += byte((len(x.answers) + 1) % 2 * 16)
		}
		for bit := range 24 {
			at := []byte("\x34\x12\x56")
			at[bit/8] ^= 1 << (bit % 8)
			k := inState(t, i)
			a := k.feed(framed(first, string(at)))
			if x.high < 2 && a.is && a.frame[0] == 0x80 || x.high >= 2 && a != (said{hexed("80 34 12 56 01 00 04 05"), true}) {
				t.Errorf("%s, % x: % x %v", x.name, at, a.frame, a.is)
			}
		}
	}
}

// P11.2: writes of so many bytes, answer by answer.
func TestWritesOfSoManyBytes(t *testing.T) {
	for _, x := range []struct {
		b     string
		feeds []string
	}{
		{"", []string{"60 00 30:0f", "20"}},
		{"A", []string{"60 00 30"}},
		{"ABCD", []string{"60 00 30"}},
		{"ABCDE", []string{"60 00 30:05 41 42 43 44 45", "20"}},
		{"ABCDEF", []string{"60 00 30:03 41 42 43 44 45 46", "20"}},
		{"ABCDEFG", []string{"60 00 30:01 41 42 43 44 45 46 47", "20"}},
		{"ABCDEFGH", []string{"60 00 30:00 41 42 43 44 45 46 47", "20:1d 48", "30"}},
		{"ABCDEFGHIJKLMN", []string{"60 00 30:00 41 42 43 44 45 46 47", "20:11 48 49 4a 4b 4c 4d 4e", "30"}},
		{"ABCDEFGHIJKLMNO", []string{"60 00 30:00 41 42 43 44 45 46 47", "20:10 48 49 4a 4b 4c 4d 4e", "30:0d 4f", "20"}},
	} {
		k := deskOf(t)
		k.write(0x3000, 0, x.b)
		k.feeds(x.feeds...)
		k.wantResult(api.Fine, "")
	}
}

// P11.2: what stands in an answer to a write beside its command, its turn or its place plays no part.
func TestWritesWhateverElseIsIn(t *testing.T) {
	k := deskOf(t)
	for low := range 16 {
		for bit := 0; bit < 32; bit += 16 {
			k.write(0x3000, 0, "ABCDEFGH")
			k.feed(framed(byte(0x60+low+bit), "\x00\x30\x00", "\x01\x02\x03\x04"))
			k.feed(framed(byte(0x20+low), "\x01\x02\x03\x04\x05\x06\x07"))
			k.feed(framed(byte(0x30+low), "\x01\x02\x03\x04\x05\x06\x07"))
			k.wantResult(api.Fine, "")
			k.write(0x3000, 0, "ABC")
			k.feed(framed(byte(0x60+low+bit), "\x00\x30\x00", "\x01\x02\x03\x04"))
			k.wantResult(api.Fine, "")
		}
	}
}

// P11.2: reads that are told at once: how many bytes, said or not.
func TestReadsAtOnce(t *testing.T) {
	for _, x := range []struct{ answer, want string }{
		{"4f 00 30 00 41 42 43 44", "A"},
		{"4b 00 30 00 41 42 43 44", "AB"},
		{"47 00 30 00 41 42 43 44", "ABC"},
		{"43 00 30 00 41 42 43 44", "ABCD"},
		{"5b 00 30 00 41 42 43 44", "AB"},
		{"42 00 30 00 41 42 43 44", "ABCD"},
		{"46 00 30 00 41 42 43 44", "ABCD"},
		{"4e 00 30 00 41 42 43 44", "ABCD"},
		{"5e 00 30 00 41 42 43 44", "ABCD"},
	} {
		k := deskOf(t)
		k.read(0x3000, 0)
		k.feeds(x.answer)
		k.wantResult(api.Fine, x.want)
	}
}

// P11.2: reads in segments, said how many or not; segments may be short, or have nothing, wherever they are.
func TestReadsInSegments(t *testing.T) {
	for _, x := range []struct {
		feeds []string
		want  string
	}{
		{[]string{"41 00 30:60", "0f"}, ""},
		{[]string{"40 00 30:60", "0f 41"}, ""},
		{[]string{"4c 00 30 00 09:60", "0f 41"}, ""},
		{[]string{"41 00 30 00 01:60", "0d 41"}, "A"},
		{[]string{"50 00 30:60", "0d 41"}, "A"},
		{[]string{"41 00 30 00 07:60", "01 41 42 43 44 45 46 47"}, "ABCDEFG"},
		{[]string{"41 00 30 00 07:60", "00 41 42 43 44 45 46 47:70", "1f"}, "ABCDEFG"},
		{[]string{"41 00 30 00 08:60", "00 41 42 43 44 45 46 47:70", "1d 48"}, "ABCDEFGH"},
		{[]string{"40 00 30 00 09:60", "00 41 42 43 44 45 46 47:70", "1d 48"}, "ABCDEFGH"},
		{[]string{"41 00 30 00 03:60", "0c 41:70", "1e:60", "0c 42:70", "1d 43"}, "ABC"},
		{[]string{"40 00 30 00 03:60", "0a 41 42 43:70", "10 43 44 45 46 47 48 49:60", "09 4a 4b 4c"}, "ABCDEFGHIJKL"},
	} {
		k := deskOf(t)
		k.read(0x3000, 0)
		k.feeds(x.feeds...)
		k.wantResult(api.Fine, x.want)
	}
}

// P11.2: another number of bytes than was said is found at the last segment, not ahead of it.
func TestBadLength(t *testing.T) {
	for _, l := range [][]string{
		{"41 00 30 00 09:60", "09 41 42 43:80 00 30 00 10 00 07 06"},
		{"41 00 30 00 00:60", "0d 41:80 00 30 00 10 00 07 06"},
		{"41 00 30 00 01:60", "0f:80 00 30 00 10 00 07 06"},
		{"41 00 30 00 02:60", "00 41 42 43 44 45 46 47:70", "10 41 42 43 44 45 46 47:60", "0f:80 00 30 00 10 00 07 06"},
		{"41 00 30 00 00 01:60", "00 41 42 43 44 45 46 47:70", "1d 48:80 00 30 00 10 00 07 06"},
	} {
		k := deskOf(t)
		k.read(0x3000, 0)
		k.feeds(l...)
		k.wantResult(api.BadLength, "")
	}
}

// P11.2: the other one's turn, in each segment; of what comes first a turn plays no part.
func TestNoToggle(t *testing.T) {
	for n := 5; n < 40; n += 3 {
		k := deskOf(t)
		b := strings.Repeat("a", n)
		for i := range segments(b) {
			k.write(0x3000, 0, b)
			k.feed(framed(0x70, "\x00\x30\x00"))
			for j := range i {
				k.feed(framed(byte(0x20 + j%2*16)))
			}
			if a := k.feed(framed(byte(0x30 - i%2*16))); a != (said{hexed("80 00 30 00 00 00 03 05"), true}) {
				t.Fatalf("%d bytes, segment %d: % x %v", n, i, a.frame, a.is)
			}
			k.wantResult(api.NoToggle, "")

			k.read(0x3000, 0)
			k.feed(framed(0x51, "\x00\x30\x00", four(uint32(n))))
			for _, s := range segments(b)[:i] {
				k.feed(s)
			}
			wrong := []byte(segments(b)[i])
			wrong[0] ^= 16
			if a := k.feed(string(wrong)); a != (said{hexed("80 00 30 00 00 00 03 05"), true}) {
				t.Fatalf("%d bytes, segment %d: % x %v", n, i, a.frame, a.is)
			}
			k.wantResult(api.NoToggle, "")
		}
	}
}

// P11.2: more than MaxBytes, said ahead: given up at once; just so many are well.
func TestTooManySaid(t *testing.T) {
	for _, x := range []struct {
		n    uint32
		want string
	}{
		{most - 1, "60"}, {most, "60"}, {most + 1, "80 00 30 00 05 00 04 05"}, {1 << 24, "80 00 30 00 05 00 04 05"},
		{1 << 31, "80 00 30 00 05 00 04 05"}, {1<<32 - 1, "80 00 30 00 05 00 04 05"},
	} {
		k := deskOf(t)
		k.read(0x3000, 0)
		if a := k.feed(framed(0x41, "\x00\x30\x00", four(x.n))); a != (said{hexed(x.want), true}) {
			t.Errorf("%x: % x %v", x.n, a.frame, a.is)
		}
		k.expire()
		// Not said: the number plays no part.
		k.read(0x3000, 0)
		if a := k.feed(framed(0x40, "\x00\x30\x00", four(x.n))); a != (said{hexed("60"), true}) {
			t.Errorf("%x: % x %v", x.n, a.frame, a.is)
		}
		if x.n > most {
			k.expire()
			k.read(0x3000, 0)
			k.feed(framed(0x41, "\x00\x30\x00", four(x.n)))
			k.wantResult(api.NoMemory, "")
		}
	}
}

// filled is a client that reads, and to which most, less 2, bytes came in full segments: the next one is of turn 0.
func filled(t *testing.T, first string) *Client {
	t.Helper()
	c := New()
	c.Read(0x3000, 0)
	c.Feed(arrayOf(hexed(first)))
	for i := range most / 7 {
		turn := byte(i % 2 * 16)
		if q, is := c.Feed([8]byte{turn, 1, 2, 3, 4, 5, 6, 7}); !is || q != [8]byte{0x70 - turn} {
			t.Fatalf("segment %d: % x %v", i, q, is)
		}
	}
	return c
}

// P11.2: more than MaxBytes that come: NoMemory, ahead of all else; just so many are well.
func TestTooManyCome(t *testing.T) {
	if most%7 != 2 || most/7%2 != 0 {
		t.Fatal("filled is another one")
	}
	want := strings.Repeat("\x01\x02\x03\x04\x05\x06\x07", most/7)
	for _, x := range []struct {
		first, segment, sent string
		code                 uint32
		more                 string
	}{
		{"40 00 30", "0b 08 09", "", api.Fine, "\x08\x09"},
		{"40 00 30", "0d 08", "", api.Fine, "\x08"},
		{"40 00 30", "09 08 09 0a", "80 00 30 00 05 00 04 05", api.NoMemory, ""},
		{"40 00 30", "08 08 09 0a", "80 00 30 00 05 00 04 05", api.NoMemory, ""},
		{"40 00 30", "00 08 09 0a 0b 0c 0d 0e", "80 00 30 00 05 00 04 05", api.NoMemory, ""},
		{"41 00 30 00 00 00 01", "0b 08 09", "", api.Fine, "\x08\x09"},
		{"41 00 30 00 00 00 01", "0d 08", "80 00 30 00 10 00 07 06", api.BadLength, ""},
		{"41 00 30 00 05", "09 08 09 0a", "80 00 30 00 05 00 04 05", api.NoMemory, ""},
		{"41 00 30 00 05", "0b 08 09", "80 00 30 00 10 00 07 06", api.BadLength, ""},
	} {
		c := filled(t, x.first)
		q, is := c.Feed(arrayOf(hexed(x.segment)))
		if is != (x.sent != "") || is && string(q[:]) != hexed(x.sent) || !is && q != [8]byte{} || c.Busy() {
			t.Errorf("%s, %s: % x %v %v", x.first, x.segment, q, is, c.Busy())
		}
		b, code, has := c.Result()
		if code != x.code || !has || code == api.Fine && string(b) != want+x.more || code != api.Fine && len(b) != 0 {
			t.Errorf("%s, %s: %d bytes %x %v", x.first, x.segment, len(b), code, has)
		}
	}
	// Two bytes, and none behind them: not the last one, and yet not too many.
	c := filled(t, "40 00 30")
	if q, is := c.Feed(arrayOf(hexed("0a 08 09"))); q != [8]byte{0x70} || !is {
		t.Errorf("% x %v", q, is)
	}
	if q, is := c.Feed(arrayOf(hexed("1c 0a"))); string(q[:]) != hexed("80 00 30 00 05 00 04 05") || !is {
		t.Errorf("% x %v", q, is)
	}
}

// P11.1 to P11.3: runs of calls, held against a twin behind each.
func TestRunsAsTheTwin(t *testing.T) {
	d := dice(111)
	ended := map[uint32]int{}
	for range 400 {
		k := deskOf(t)
		for range 150 {
			k.anyCall(&d)
			if o := k.twin.out; o.has && d.once(2) {
				ended[o.code]++
				k.result()
			}
		}
	}
	for _, code := range []uint32{api.Fine, api.NoToggle, api.NoCommand, api.BadLength, api.NoMemory, api.TimedOut} {
		if ended[code] < 50 {
			t.Errorf("too few ended with %x: %d", code, ended[code])
		}
	}
}

// anyCall is one of a run: mostly one with which it goes on.
func (k *desk) anyCall(d *dice) {
	k.t.Helper()
	index, sub := uint16(0x2000+d.below(3)), uint8(d.below(3))
	switch {
	case d.once(60):
		k.expire()
	case d.once(30):
		k.result()
	case k.twin.busy && !d.once(20):
		k.feed(k.anyAnswer(d))
	case d.once(2):
		k.read(index, sub)
	default:
		k.write(index, sub, d.bytes(d.below(30)))
	}
}

// anyAnswer is one to what the twin waits for, and now and then another one.
func (k *desk) anyAnswer(d *dice) string {
	n := len(k.twin.list)
	turn := byte((n + 1) % 2 * 16)
	switch {
	case d.once(12):
		return d.bytes(8)
	case d.once(15):
		turn ^= 16
	}
	switch reads := k.twin.frames == nil; {
	case n == 0 && reads && d.once(8):
		return framed(byte(0x40+d.below(32)), k.twin.at, d.bytes(4))
	case n == 0 && reads:
		return framed(byte(0x40+d.below(2)), k.twin.at, four(uint32(d.below(12))))
	case n == 0:
		return framed(byte(0x60+d.below(32)), k.twin.at, d.bytes(4))
	case reads:
		return framed(turn+byte(d.below(16)), d.bytes(7))
	}
	return framed(0x20+turn+byte(d.below(16)), d.bytes(7))
}
