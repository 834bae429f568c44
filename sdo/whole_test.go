package sdo

import (
	"slices"
	"strings"
	"testing"

	"tramway/api"
)

// image is what a dictionary has: all values, and what it saves.
func (k *desk) image() []string {
	l := []string{string(k.dict.Save())}
	for _, e := range k.dict.List() {
		v, _ := k.dict.Get(e.Index, e.Sub)
		l = append(l, short(v)+v.B)
	}
	return l
}

// P10.4: an entry is changed by the last frame of a write alone, and then has all of the bytes.
func TestChangedByTheLastFrameAlone(t *testing.T) {
	d := dice(104)
	for n := range 40 {
		for _, said := range []bool{false, true} {
			k := deskOf(t, append(shelf(), domain("old"))...)
			first := framed(0x20, "\x00\x30\x00")
			if said {
				first = framed(0x21, "\x00\x30\x00", four(uint32(n)))
			}
			before := k.image()
			b := d.bytes(n)
			l := append([]string{first}, segments(b)...)
			for _, q := range l[:len(l)-1] {
				k.ask(q)
				if !slices.Equal(k.image(), before) {
					t.Fatalf("%d bytes: changed by % x", n, q)
				}
			}
			k.ask(l[len(l)-1])
			k.wantHas(0x3000, 0, b)
			k.wantSame()
		}
	}
}

// P10.4: a write that is given up, expires, is aborted or reset, ahead of each of its frames, changes nothing; what follows begins anew.
func TestGivenUpChangesNothing(t *testing.T) {
	ends := []func(k *desk){
		func(k *desk) { k.expire() },
		func(k *desk) { k.reset() },
		func(k *desk) { k.ask(framed(0x80, "\x00\x30\x00", four(api.General))) },
		func(k *desk) { k.ask(framed(0xa0)) },
		func(k *desk) { k.ask(framed(0xe0)) },
		func(k *desk) { k.ask(framed(0x40, "\x00\x30\x00")) },
		func(k *desk) { k.ask(framed(0x40, "\x00\x20\x05")) },
		func(k *desk) { k.ask(framed(0x40, "\x00\x60\x05")) },
		func(k *desk) { k.ask(framed(0x20, "\x02\x20\x0a")) },
		func(k *desk) { k.ask(framed(0x20, "\x00\x60\x05")) },
		func(k *desk) { k.ask(framed(0x2f, "\x00\x20\x05")) },
	}
	l := append([]string{framed(0x20, "\x00\x30\x00")}, segments("the new bytes of it")...)
	for i, end := range ends {
		for n := 1; n < len(l); n++ {
			k := deskOf(t, append(shelf(), domain("old"))...)
			before := k.image()
			for _, q := range l[:n] {
				k.ask(q)
			}
			end(k)
			if !slices.Equal(k.image(), before) {
				t.Fatalf("end %d behind %d frames: changed", i, n)
			}
			k.expire()
			for _, q := range l[n:] {
				k.ask(q)
			}
			k.wantHas(0x3000, 0, "old")
			for _, q := range l {
				k.ask(q)
			}
			k.wantHas(0x3000, 0, "the new bytes of it")
		}
	}
}

// P10.4: a write that is refused, by whichever frame, changes nothing.
func TestRefusedChangesNothing(t *testing.T) {
	k := deskOf(t, append(shelf(), domain("old"))...)
	before := k.image()
	for _, l := range [][]string{
		{"2f 00 21 01 06"},
		{"2f 02 20 06 06"},
		{"2b 00 20 06 06"},
		{"20 00 21 01", "0d 06"},
		{"20 00 21 01", "00 03", "1f"},
		{"21 00 30 00 05", "09 31 32 33"},
		{"21 00 30 00 05", "00 31 32 33 34 35 36 37", "1d 38"},
		{"20 00 30", "00 31 32 33 34 35 36 37", "0d 38"},
		{"20 00 30", "11 31 32 33 34 35 36 37"},
		{"21 00 30 00 00 00 01 01"},
	} {
		for _, q := range l {
			k.ask(hexed(q))
		}
		if !slices.Equal(k.image(), before) || k.serve.Doing() != 0 {
			t.Errorf("%q: changed, or Doing %d", l, k.serve.Doing())
		}
	}
}

// P10.4: a write changes no other entry.
func TestChangesNoOtherEntry(t *testing.T) {
	k := deskOf(t, append(shelf(), domain("old"), octets(0x3000, 1, api.ReadWrite, "apart"), octets(0x3001, 0, api.ReadWrite, "apart"))...)
	k.asks("21 00 30 00 08:60 00 30", "00 31 32 33 34 35 36 37:20", "1d 38:30", "2f 01 30 00 41:60 01 30")
	k.wantSame()
	k.wantHas(0x3000, 0, "12345678")
	k.wantHas(0x3000, 1, "apart")
	k.wantHas(0x3001, 0, "A")
}

// P10.6: reads, whole or cut short, of anything, change nothing.
func TestReadsChangeNothing(t *testing.T) {
	d := dice(105)
	k := deskOf(t, append(shelf(), domain("0123456789"), octets(0x4000, 0, api.ReadOnly, strings.Repeat("0123456789", 9)))...)
	before := k.image()
	all := append(places(), placed(0x3000, 0), placed(0x4000, 0))
	for range 3000 {
		k.ask(framed(byte(0x40+d.below(32)), all[d.below(len(all))], d.bytes(4)))
		for i := 0; i < 20 && k.serve.Doing() == 2; i++ {
			turn := byte(i % 2 * 16)
			if d.once(30) {
				turn ^= 16
			}
			k.ask(framed(0x60+turn, d.bytes(7)))
		}
		if d.once(5) {
			k.expire()
		}
	}
	if !slices.Equal(k.image(), before) {
		t.Error("changed")
	}
}

// P10.7: each segment of a write that comes twice in a row ends it with NoToggle; behind the last one there is no write any more.
func TestSegmentTwice(t *testing.T) {
	for n := range 30 {
		b := strings.Repeat("new", 10)[:n]
		l := segments(b)
		for i, q := range l {
			k := deskOf(t, domain("old"))
			k.asks("20 00 30:60 00 30")
			for _, ahead := range l[:i+1] {
				k.ask(ahead)
			}
			want, has := aborted("\x00\x30\x00", api.NoToggle), "old"
			if i == len(l)-1 {
				want, has = aborted(nowhere, api.NoCommand), b
			}
			if got := k.ask(q); got != want || k.serve.Doing() != 0 {
				t.Fatalf("%d bytes, segment %d: % x, want % x", n, i, got, want)
			}
			for _, rest := range l[i+1:] {
				k.ask(rest)
			}
			k.wantHas(0x3000, 0, has)
		}
	}
}

// P10.7: who asks for a segment twice ends a read likewise.
func TestAskedForTwice(t *testing.T) {
	k := inState(t, "40 00 30")
	k.asks("60:00 30 31 32 33 34 35 36", "60:80 00 30 00 00 00 03 05", "70:80 00 00 00 01 00 04 05")
}

// Memory: what the caller does later to an array that it gave or was given changes nothing in the server.
func TestMemory(t *testing.T) {
	k := deskOf(t, domain("0123456789"), octets(0x4000, 0, api.ReadWrite, "old"))
	scribble := func(f *[8]byte) {
		for i := range f {
			f[i] ^= 0xff
		}
	}
	handle := func(q string, want string) {
		t.Helper()
		f := [8]byte([]byte(hexed(q)))
		a, _ := k.serve.Handle(f)
		if string(a[:]) != hexed(want) {
			t.Fatalf("%s: % x, want %s", q, a, want)
		}
		scribble(&f)
		scribble(&a)
	}
	handle("21 00 40 00 08", "60 00 40")
	handle("00 31 32 33 34 35 36 37", "20")
	handle("1d 38", "30")
	k.wantHas(0x4000, 0, "12345678")
	handle("23 00 40 00 41 42 43 44", "60 00 40")
	k.wantHas(0x4000, 0, "ABCD")
	handle("40 00 40", "43 00 40 00 41 42 43 44")
	k.wantHas(0x4000, 0, "ABCD")
	handle("40 00 30", "41 00 30 00 0a")
	handle("60", "00 30 31 32 33 34 35 36")
	handle("70", "19 37 38 39")
	k.wantHas(0x3000, 0, "0123456789")
	handle("20 00 30", "60 00 30")
	a, _ := k.serve.Expire()
	scribble(&a)
	handle("40 00 30", "41 00 30 00 0a")
}
