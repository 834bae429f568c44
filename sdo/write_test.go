package sdo

import (
	"strings"
	"testing"

	"tramway/api"
)

// P10.2: the first frames of writes, all 32 of them, at entries of all types and accesses, and where there are none: held against a clerk, and what the entries have behind them.
func TestFirstFramesOfWrites(t *testing.T) {
	d := dice(101)
	data := []string{"\x00\x00\x00\x00", "\x01\x00\x00\x00", "\x05\x00\x00\x00", "\x06\x00\x00\x00", "\xfc\xff\xff\xff", "\xfd\xff\xff\xff", "abcd", "ab\ncd"[:4], "\x01\x01\x01\x01"}
	for low := range 32 {
		k := deskOf(t, shelf()...)
		for _, at := range places() {
			for _, b := range append(data, d.bytes(4), d.letters(4)) {
				k.ask(framed(byte(0x20+low), at, b))
			}
		}
		k.wantSame()
	}
}

// P10.2: at once, and it is said how many: the first ones of the four.
func TestAtOnceSaid(t *testing.T) {
	k := deskOf(t, octets(0x2000, 0, api.ReadWrite, ""))
	for n, first := range []string{"", "2f", "2b", "27", "23"} {
		if n == 0 {
			continue
		}
		k.asks(first + "00 20 00 41 42 43 44:60 00 20")
		k.wantHas(0x2000, 0, "ABCD"[:n])
		k.asks("3" + first[1:] + "00 20 00 45 46 47 48:60 00 20") // bit 4 plays no part
		k.wantHas(0x2000, 0, "EFGH"[:n])
	}
}

// P10.2: at once, and it is not said how many: the entry's number tells it, or it is four; bits 2 and 3 play no part.
func TestAtOnceUnsaid(t *testing.T) {
	for _, x := range []struct {
		kind int
		code uint32
		has  string
	}{
		{api.Bool, api.Fine, "\x01"},
		{api.Uint8, api.Fine, "\x01"},
		{api.Int8, api.Fine, "\x01"},
		{api.Uint16, api.Fine, "\x01\x42"},
		{api.Int16, api.Fine, "\x01\x42"},
		{api.Uint32, api.Fine, "\x01\x42\x43\x44"},
		{api.Int32, api.Fine, "\x01\x42\x43\x44"},
		{api.Uint64, api.TooShort, strings.Repeat("\x00", 8)},
		{api.Int64, api.TooShort, strings.Repeat("\x00", 8)},
		{api.Octets, api.Fine, "\x01\x42\x43\x44"},
		{api.Domain, api.Fine, "\x01\x42\x43\x44"},
		{api.Text, api.BadValue, ""},
	} {
		for _, first := range []byte{0x22, 0x26, 0x2a, 0x2e} {
			k := deskOf(t, api.Entry{Index: 0x2000, Sub: 1, Access: api.ReadWrite, Default: api.Value{Type: x.kind}})
			want := framed(0x60, "\x00\x20\x01")
			if x.code != api.Fine {
				want = aborted("\x00\x20\x01", x.code)
			}
			if got := k.ask(framed(first, "\x00\x20\x01", "\x01\x42\x43\x44")); got != want {
				t.Errorf("type %d, %x: % x, want % x", x.kind, first, got, want)
			}
			k.wantHas(0x2000, 1, x.has)
		}
	}
}

// P10.2: codes of writes at once, at the place.
func TestAtOnceRefused(t *testing.T) {
	k := deskOf(t, shelf()...)
	k.asks(
		"2f 00 21 01 06:80 00 21 01 31 00 09 06", // above Max
		"2f 00 21 01 01:80 00 21 01 32 00 09 06", // below Min
		"2f 02 20 01 02:80 02 20 01 30 00 09 06", // no Bool
		"2b 02 20 05 02:80 02 20 05 12 00 07 06", // too long
		"2f 02 20 06 02:80 02 20 06 13 00 07 06", // too short
		"2f 00 20 05 02:80 00 20 05 02 00 01 06", // ReadOnly
		"2f 03 20 05 02:80 03 20 05 02 00 01 06", // Const
		"2f 02 20 00 02:80 02 20 00 11 00 09 06", // no such sub-index
		"2f 04 20 05 02:80 04 20 05 00 00 02 06", // no such index
		"2f 01 20 05 02:60 01 20 05",             // WriteOnly
	)
	k.wantSame()
}

// P10.2: in segments: an entry that is not there, or gives no leave, refuses at once; any bytes are awaited else, whatever its type.
func TestBeginInSegments(t *testing.T) {
	for _, at := range places() {
		for _, first := range []byte{0x20, 0x21, 0x24, 0x28, 0x2c, 0x30, 0x31, 0x3d} {
			k := deskOf(t, shelf()...)
			k.ask(framed(first, at, "\x05\x01\x00\x00"))
			k.wantSame()
		}
	}
	k := deskOf(t, shelf()...)
	k.asks(
		"20 04 20 05:80 04 20 05 00 00 02 06",
		"20 02 20 00:80 02 20 00 11 00 09 06",
		"20 00 20 05:80 00 20 05 02 00 01 06",
		"20 03 20 0a:80 03 20 0a 02 00 01 06",
		"20 01 20 0a:60 01 20 0a",
		"20 02 20 1b:60 02 20 1b",
	)
}

// P10.2: how many it will be.
func TestHowMany(t *testing.T) {
	for _, x := range []struct {
		n    uint32
		code uint32
	}{
		{0, api.Fine},
		{1, api.Fine},
		{most - 1, api.Fine},
		{most, api.Fine},
		{most + 1, api.NoMemory},
		{0x01000000, api.NoMemory},
		{0x80000000, api.NoMemory},
		{0xffffffff, api.NoMemory},
	} {
		for _, before := range []string{"", "20 00 30", "40 00 30"} {
			k := inState(t, before)
			want, doing := framed(0x60, "\x00\x30\x00"), 1
			if x.code != api.Fine {
				want, doing = aborted("\x00\x30\x00", x.code), 0
			}
			if got := k.ask(framed(0x21, "\x00\x30\x00", four(x.n))); got != want || k.serve.Doing() != doing {
				t.Errorf("%d: % x, want % x; Doing %d", x.n, got, want, k.serve.Doing())
			}
			// Not said, the bytes there play no part.
			if got := k.ask(framed(0x20, "\x00\x30\x00", four(x.n))); got != framed(0x60, "\x00\x30\x00") || k.serve.Doing() != 1 {
				t.Errorf("%d, unsaid: % x", x.n, got)
			}
			k.ask(framed(0x01, "seven ."))
			k.wantHas(0x3000, 0, "seven .")
		}
	}
}

// P10.2: no bytes, said so or not.
func TestWriteOfNoBytes(t *testing.T) {
	k := inState(t, "")
	k.asks("21 00 30:60 00 30", "0f 01 02 03:20")
	k.wantHas(0x3000, 0, "")
	k.set(0x3000, 0, "abcde")
	k.asks("20 00 30:60 00 30", "0f 01 02 03:20")
	k.wantHas(0x3000, 0, "")
	k.asks("21 00 30:60 00 30", "0d 01:80 00 30 00 10 00 07 06")
	k.asks("20 00 20 01:60 00 20 01", "0f:80 00 20 01 13 00 07 06")
}

// P10.2: segments of 0 to 7 bytes, the last one or not, with the right turn and the wrong one, as the first, the second and the third.
func TestSegments(t *testing.T) {
	for spare := range 8 {
		for _, last := range []int{0, 1} {
			for _, turn := range []int{0, 16} {
				for ahead := range 3 {
					k := inState(t, "20 00 30")
					for i := range ahead {
						k.ask(framed(byte(i*16), "ABCDEFG"))
					}
					got := k.ask(framed(byte(turn+spare*2+last), "1234567"))
					want, has := framed(byte(0x20+turn)), strings.Repeat("ABCDEFG", ahead)+"1234567"[:7-spare]
					right := turn/16 == ahead%2
					if !right {
						want = aborted("\x00\x30\x00", api.NoToggle)
					}
					if got != want {
						t.Fatalf("spare %d, last %d, turn %d behind %d: % x, want % x", spare, last, turn, ahead, got, want)
					}
					if !right || last == 0 {
						has = "0123456789"
					}
					k.wantHas(0x3000, 0, has)
					if (k.serve.Doing() == 1) != (right && last == 0) {
						t.Fatalf("Doing: %d", k.serve.Doing())
					}
				}
			}
		}
	}
}

// P10.2: segments that are short before the last one: each adds its own.
func TestShortSegments(t *testing.T) {
	k := inState(t, "")
	k.asks("21 00 30 00 06:60 00 30", "0c 41 ff:20", "1e ff ff:30", "0a 42 43:20", "1e:30", "09 44 45 46:20")
	k.wantHas(0x3000, 0, "ABCDEF")
}

// P10.2: ahead of any write, and behind its last segment.
func TestSegmentsOutside(t *testing.T) {
	k := inState(t, "")
	k.asks("00:80 00 00 00 01 00 04 05", "10 01 02:80 00 00 00 01 00 04 05", "01:80 00 00 00 01 00 04 05")
	k.asks("20 00 30:60 00 30", "01 31 32 33 34 35 36 37:20")
	k.asks("01 31:80 00 00 00 01 00 04 05", "11 31:80 00 00 00 01 00 04 05")
	k.asks("2b 00 20 01 07:60 00 20 01", "00:80 00 00 00 01 00 04 05")
	k.wantHas(0x3000, 0, "1234567")
}

// fill hands a write of MaxBytes, less 2, to the server: what has room in whole segments. The next one's turn is 0.
func (k *desk) fill(first string) {
	k.t.Helper()
	k.wantAnswer(first, framed(0x60, first[1:4]))
	for i := range most / 7 {
		turn := byte(i % 2 * 16)
		k.wantAnswer(framed(turn, "7 bytes"), framed(0x20+turn))
	}
}

// P10.2: as many bytes as MaxBytes, and more in all.
func TestMostBytes(t *testing.T) {
	all := strings.Repeat("7 bytes", most/7)
	at := "\x00\x30\x00"
	for _, x := range []struct {
		name, first, segment, want, has string
	}{
		{"most", framed(0x20, at), framed(0x0b, "xy"), framed(0x20), all + "xy"},
		{"most, said", framed(0x21, at, four(most)), framed(0x0b, "xy"), framed(0x20), all + "xy"},
		{"less", framed(0x20, at), framed(0x0d, "x"), framed(0x20), all + "x"},
		{"less, said most", framed(0x21, at, four(most)), framed(0x0d, "x"), aborted(at, api.BadLength), "0"},
		{"one more", framed(0x20, at), framed(0x09, "xyz"), aborted(at, api.NoMemory), "0"},
		{"one more, not the last", framed(0x20, at), framed(0x08, "xyz"), aborted(at, api.NoMemory), "0"},
		{"five more", framed(0x20, at), framed(0x00, "1234567"), aborted(at, api.NoMemory), "0"},
		{"one more, said most", framed(0x21, at, four(most)), framed(0x09, "xyz"), aborted(at, api.NoMemory), "0"},
		{"one more, said 1", framed(0x21, at, four(1)), framed(0x09, "xyz"), aborted(at, api.NoMemory), "0"},
		{"one more, the wrong turn", framed(0x20, at), framed(0x19, "xyz"), aborted(at, api.NoToggle), "0"},
	} {
		k := deskOf(t, domain("0"))
		k.fill(x.first)
		k.wantAnswer(x.segment, x.want)
		if k.serve.Doing() != 0 {
			t.Errorf("%s: Doing %d", x.name, k.serve.Doing())
		}
		k.wantHas(0x3000, 0, x.has)
	}
}

// P10.2: MaxBytes came, not the last ones: it goes on, till there is one more; segments of none do not end it.
func TestMostBytesGoOn(t *testing.T) {
	k := deskOf(t, domain("0"))
	k.fill(framed(0x20, "\x00\x30\x00"))
	k.wantAnswer(framed(0x0a, "xy"), framed(0x20))
	k.wantAnswer(framed(0x1e, "xy"), framed(0x30))
	k.wantAnswer(framed(0x0e, "xy"), framed(0x20))
	if k.serve.Doing() != 1 {
		t.Fatalf("Doing: %d", k.serve.Doing())
	}
	k.wantHas(0x3000, 0, "0")
	k.wantAnswer(framed(0x1f), framed(0x30))
	k.wantHas(0x3000, 0, strings.Repeat("7 bytes", most/7)+"xy")
	k.fill(framed(0x20, "\x00\x30\x00"))
	k.wantAnswer(framed(0x0a, "xy"), framed(0x20))
	k.wantAnswer(framed(0x1c, "z"), aborted("\x00\x30\x00", api.NoMemory))
	k.wantHas(0x3000, 0, strings.Repeat("7 bytes", most/7)+"xy")
	k.wantAnswer(framed(0x0f), aborted(nowhere, api.NoCommand))
}

// P10.2: it was said how many it will be: so many, one less, one more, of one segment and of several; nothing is asked ahead of the last one.
func TestAsManyAsWasSaid(t *testing.T) {
	d := dice(102)
	for _, said := range []int{1, 2, 6, 7, 8, 13, 14, 15, 100} {
		for n := said - 1; n <= said+1; n++ {
			k := deskOf(t, domain("old"))
			k.sends(framed(0x21, "\x00\x30\x00", four(uint32(said))))
			b := d.bytes(n)
			l := segments(b)
			k.sends(l[:len(l)-1]...)
			if n == said {
				k.sends(l[len(l)-1])
				k.wantHas(0x3000, 0, b)
			} else {
				k.wantAnswer(l[len(l)-1], aborted("\x00\x30\x00", api.BadLength))
				k.wantHas(0x3000, 0, "old")
			}
			if k.serve.Doing() != 0 {
				t.Fatalf("Doing: %d", k.serve.Doing())
			}
		}
	}
	k := inState(t, "")
	k.asks("21 00 30 00 03:60 00 30", "00:20", "10:30", "00:20", "1f:80 00 30 00 10 00 07 06", "1f:80 00 00 00 01 00 04 05")
}

// P10.2: what the dictionary refuses at the last segment, at the write's place; it does nothing then.
func TestRefusedAtTheLastSegment(t *testing.T) {
	for _, l := range [][]string{
		{"20 02 20 06:60 02 20 06", "0d 01:80 02 20 06 13 00 07 06"},
		{"20 02 20 06:60 02 20 06", "09 01 01 01:80 02 20 06 12 00 07 06"},
		{"20 02 20 1b:60 02 20 1b", "01 01 01 01 01 01 01 01:80 02 20 1b 13 00 07 06"},
		{"20 02 20 1b:60 02 20 1b", "00 01 01 01 01 01 01 01:20", "1b 01 01:80 02 20 1b 12 00 07 06"},
		{"20 02 20 01:60 02 20 01", "0d 02:80 02 20 01 30 00 09 06"},
		{"20 02 20 09:60 02 20 09", "0b 41 1f:80 02 20 09 30 00 09 06"},
		{"20 00 21 01:60 00 21 01", "0d 06:80 00 21 01 31 00 09 06"},
		{"20 00 21 01:60 00 21 01", "0d 01:80 00 21 01 32 00 09 06"},
		{"20 00 21 02:60 00 21 02", "0b fc ff:80 00 21 02 32 00 09 06"},
	} {
		k := deskOf(t, shelf()...)
		k.asks(l...)
		k.wantSame()
		k.asks("11:80 00 00 00 01 00 04 05")
	}
}

// P10.2: numbers, texts and bytes that come in segments, WriteOnly ones too.
func TestTakenAtTheLastSegment(t *testing.T) {
	k := deskOf(t, shelf()...)
	k.asks(
		"20 02 20 06:60 02 20 06", "0b 34 12:20",
		"21 02 20 1b 08:60 02 20 1b", "00 01 02 03 04 05 06 07:20", "1d 08:30",
		"20 01 20 09:60 01 20 09", "0a 41 42:20", "1b 43 44:30",
		"20 01 20 02:60 01 20 02", "0e:20", "1d 80:30",
		"20 00 21 02:60 00 21 02", "0b fd ff:20",
	)
	k.wantSame()
	k.wantHas(readWrite, api.Uint16, "\x34\x12")
	k.wantHas(readWrite, api.Uint64, "\x01\x02\x03\x04\x05\x06\x07\x08")
	k.wantHas(0x2001, api.Text, "ABCD")
	k.wantHas(0x2001, api.Int8, "\x80")
	k.wantHas(0x2100, 2, "\xfd\xff")
}

// First error: of several aborts the one that the chapter names first.
func TestWhichAbortComesFirst(t *testing.T) {
	k := deskOf(t, shelf()...)
	k.asks(
		"21 04 20 05 ff ff ff ff:80 04 20 05 00 00 02 06", // no entry, and too many
		"21 02 20 00 ff ff ff ff:80 02 20 00 11 00 09 06",
		"21 00 20 05 ff ff ff ff:80 00 20 05 02 00 01 06", // no leave, and too many
		"21 02 20 05 ff ff ff ff:80 02 20 05 05 00 04 05", // too many, and too long for it
		"10:80 00 00 00 01 00 04 05",                      // not written to, and the wrong turn
		"70:80 00 00 00 01 00 04 05",
		"21 02 20 05 07:60 02 20 05", "11 01:80 02 20 05 00 00 03 05", // the wrong turn, and not so many, and too long
		"21 02 20 05 01:60 02 20 05", "0b 01 02:80 02 20 05 10 00 07 06", // not so many, and too long
		"21 02 20 06 02:60 02 20 06", "0d 01:80 02 20 06 10 00 07 06", // not so many, and too short
		"21 00 21 01 02:60 00 21 01", "0d 06:80 00 21 01 10 00 07 06", // not so many, and too high
	)
	k.wantSame()
}

// P10.2: a write that begins while another one, or a read, goes on: what was done is given up, also by one that is refused or at once.
func TestWriteGivesUpWhatWasDone(t *testing.T) {
	for _, x := range states {
		for _, q := range []string{"20 00 20 01", "21 00 20 01 02", "2b 00 20 01 07 07", "22 00 20 01 07 07", "20 00 40", "2f 00 40", "2f 00 20 01 07", "21 00 30 00 ff ff ff ff"} {
			for _, ahead := range [][]string{nil, {"00 41 42 43 44 45 46 47"}, {"60"}} {
				k := inState(t, x.begin)
				for _, a := range ahead {
					k.ask(hexed(a))
				}
				k.ask(hexed(q))
				k.wantSame()
				k.wantHas(0x3000, 0, "0123456789")
				k.ask(hexed("0b 09 0a"))
				k.ask(hexed("70"))
				k.ask(hexed("60"))
				k.wantSame()
				k.wantHas(0x3000, 0, "0123456789")
			}
		}
	}
	k := inState(t, "21 00 30 00 09")
	k.asks("00 31 32 33 34 35 36 37:20", "20 00 30:60 00 30", "0d 38:20")
	k.wantHas(0x3000, 0, "8") // neither the bytes nor how many nor the turn of the one given up
}
