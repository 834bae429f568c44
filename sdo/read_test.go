package sdo

import (
	"strings"
	"testing"

	"tramway/api"
)

// P10.2: reads of all types and accesses, and where there is nothing; bits 0 to 4 play no part, nor do bytes 4 to 7.
func TestFirstFramesOfReads(t *testing.T) {
	k := deskOf(t, shelf()...)
	for low := range 32 {
		for _, at := range places() {
			k.ask(framed(byte(0x40+low), at, "\x01\x02\x03\x04"))
		}
	}
	k.wantSame()
	k.asks(
		"40 04 20 05:80 04 20 05 00 00 02 06",
		"40 02 20 00:80 02 20 00 11 00 09 06",
		"40 01 20 05:80 01 20 05 01 00 01 06", // WriteOnly
		"40 01 20 09:80 01 20 09 01 00 01 06",
		"40 00 20 05:4f 00 20 05 01",
		"40 03 20 06:4b 03 20 06 01",
		"40 02 20 07:43 02 20 07 01",
		"40 02 20 1b:41 02 20 1b 08",
	)
}

// P10.2: reads of so many bytes, told at once or in segments, up to the last one and behind it.
func TestReadsOfSoManyBytes(t *testing.T) {
	for _, l := range [][]string{
		{"", "41 00 30 00 00", "0f"},
		{"A", "4f 00 30 00 41"},
		{"AB", "4b 00 30 00 41 42"},
		{"ABC", "47 00 30 00 41 42 43"},
		{"ABCD", "43 00 30 00 41 42 43 44"},
		{"ABCDE", "41 00 30 00 05", "05 41 42 43 44 45"},
		{"ABCDEF", "41 00 30 00 06", "03 41 42 43 44 45 46"},
		{"ABCDEFG", "41 00 30 00 07", "01 41 42 43 44 45 46 47"},
		{"ABCDEFGH", "41 00 30 00 08", "00 41 42 43 44 45 46 47", "1d 48"},
		{"ABCDEFGHIJKLMN", "41 00 30 00 0e", "00 41 42 43 44 45 46 47", "11 48 49 4a 4b 4c 4d 4e"},
		{"ABCDEFGHIJKLMNO", "41 00 30 00 0f", "00 41 42 43 44 45 46 47", "10 48 49 4a 4b 4c 4d 4e", "0d 4f"},
	} {
		k := deskOf(t, domain(l[0]))
		k.asks("40 00 30:" + l[1])
		for i, want := range l[2:] {
			if k.serve.Doing() != 2 {
				t.Fatalf("%q, ahead of segment %d: Doing %d", l[0], i, k.serve.Doing())
			}
			k.asks([]string{"60:", "70:"}[i%2] + want)
		}
		if k.serve.Doing() != 0 {
			t.Fatalf("%q: Doing %d", l[0], k.serve.Doing())
		}
		k.asks("60:80 00 00 00 01 00 04 05", "70:80 00 00 00 01 00 04 05")
	}
}

// P10.2: as many bytes as there can be.
func TestReadOfMostBytes(t *testing.T) {
	d := dice(103)
	b := d.bytes(most)
	k := deskOf(t, domain(b))
	k.wantAnswer(framed(0x40, "\x00\x30\x00"), framed(0x41, "\x00\x30\x00", four(most)))
	rest := b
	for i := 0; len(rest) > 7; i++ {
		turn := byte(i % 2 * 16)
		k.wantAnswer(framed(0x60+turn), framed(turn, rest[:7]))
		rest = rest[7:]
	}
	k.wantAnswer(framed(0x60), framed(0x0b, rest))
	if rest != b[most-2:] || k.serve.Doing() != 0 {
		t.Errorf("%d left, Doing %d", len(rest), k.serve.Doing())
	}
}

// P10.2: the next segment, with the right turn and the wrong one, as the first, the second and the third; other bits and bytes play no part.
func TestNextSegments(t *testing.T) {
	b := "ABCDEFGHIJKLMNOPQRSTU"
	for ahead := range 3 {
		for low := range 32 {
			k := deskOf(t, domain(b))
			k.asks("40 00 30:41 00 30 00 15")
			for i := range ahead {
				k.ask(framed(byte(0x60 + i*16)))
			}
			turn := byte(low & 16)
			want, doing := framed(turn, b[7*ahead:7*ahead+7]), 2
			switch {
			case int(turn)/16 != ahead%2:
				want, doing = aborted("\x00\x30\x00", api.NoToggle), 0
			case ahead == 2:
				want, doing = framed(turn+1, b[14:]), 0
			}
			if got := k.ask(framed(byte(0x60+low), "\x07\x08\x09\x01\x02\x03\x04")); got != want || k.serve.Doing() != doing {
				t.Fatalf("behind %d, %x: % x, want % x; Doing %d", ahead, low, got, want, k.serve.Doing())
			}
		}
	}
}

// P10.2: ahead of any read, and behind one that was told at once.
func TestNextSegmentsOutside(t *testing.T) {
	k := inState(t, "")
	k.asks("60:80 00 00 00 01 00 04 05", "70 01 02 03:80 00 00 00 01 00 04 05", "40 00 20 01:4b 00 20 01 05", "60:80 00 00 00 01 00 04 05")
	k.asks("40 00 30:41 00 30 00 0a", "70:80 00 30 00 00 00 03 05", "60:80 00 00 00 01 00 04 05")
}

// P10.2: a read that begins while a write, or another read, goes on: what was done is given up, also by one that is refused or told at once.
func TestReadGivesUpWhatWasDone(t *testing.T) {
	for _, x := range states {
		for _, q := range []string{"40 00 20 01", "40 00 30", "40 00 40", "40 00 30 01"} {
			for _, ahead := range [][]string{nil, {"00 41 42 43 44 45 46 47"}, {"60"}} {
				k := inState(t, x.begin)
				for _, a := range ahead {
					k.ask(hexed(a))
				}
				k.ask(hexed(q))
				k.ask(hexed("01 31 32 33 34 35 36 37"))
				k.ask(hexed("60"))
				k.ask(hexed("70"))
				k.wantSame()
				k.wantHas(0x3000, 0, "0123456789")
			}
		}
	}
	k := inState(t, "40 00 30")
	k.asks("60:00 30 31 32 33 34 35 36", "40 00 30:41 00 30 00 0a", "60:00 30 31 32 33 34 35 36", "70:19 37 38 39")
}

// P10.5: what is told is what the entry had when the read began, though it is written, set and reset meanwhile.
func TestReadsWhatItHadAtFirst(t *testing.T) {
	changes := []func(k *desk){
		func(k *desk) { k.dict.Write(0x3000, 0, []byte("other")) },
		func(k *desk) { k.dict.Write(0x3000, 0, nil) },
		func(k *desk) { k.dict.Write(0x3000, 0, []byte(strings.Repeat("longer", 9))) },
		func(k *desk) { k.dict.Set(0x3000, 0, api.Value{Type: api.Domain, B: "zzzzzzzzzz"}) },
		func(k *desk) { k.dict.Reset() },
		func(k *desk) {
			other, _ := New(k.dict)
			other.Handle([8]byte{0x23, 0, 0x30, 0, 1, 2, 3, 4})
		},
	}
	for _, change := range changes {
		for behind := range 2 {
			k := deskOf(t, domain("at first, this"))
			k.dict.Write(0x3000, 0, []byte("0123456789"))
			k.wantAnswer(hexed("40 00 30"), hexed("41 00 30 00 0a"))
			if behind == 0 {
				change(k)
			}
			k.wantAnswer(hexed("60"), hexed("00 30 31 32 33 34 35 36"))
			if behind == 1 {
				change(k)
			}
			k.wantAnswer(hexed("70"), hexed("19 37 38 39"))
		}
	}
}
