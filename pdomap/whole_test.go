package pdomap

import (
	"testing"

	"tramway/api"
)

// P13.1, P13.2, P13.4: long runs on dictionaries of all kinds tell, at each call, what a sheet tells that shifts values in one number of 64 bits; what is refused changes nothing, and what is taken no other entry.
func TestRuns(t *testing.T) {
	r := dice(13)
	var taken, formed, short, wrong, told int
	for range 400 {
		w := deskOf(t, r.entries()...)
		for range 60 {
			in := r.once(2)
			l := r.mapping(w.k, in)
			w.check(l, in)
			w.check(l, !in)
			if !in {
				if _, err := w.pack(l); err == ok {
					told++
				}
				continue
			}
			switch w.unpack(l, r.bytes(w.k, l)) {
			case ok:
				taken++
			case errForm:
				formed++
			case errShort:
				short++
			case errArg:
				wrong++
			}
		}
	}
	// Each of them must come up often, or the runs say little.
	for _, n := range []int{taken, formed, short, wrong, told} {
		if n < 300 {
			t.Fatal("too few of one kind:", taken, formed, short, wrong, told)
		}
	}
}

// P13.3: what was told of one dictionary gives another one of the same entries the same values; where one of them lies beyond its limits, it is refused, and nothing changes.
func TestThereAndBack(t *testing.T) {
	r := dice(3)
	whole, refused := 0, 0
	for range 3000 {
		entries := r.entries()
		from, to := deskOf(t, entries...), deskOf(t, entries...)
		for _, w := range []*desk{from, to} {
			for _, c := range w.k {
				x := numberOf(c.v.Type)
				v := api.Value{Type: x.typ, N: r.n(x)}
				if x.bits > 0 && c.entry.Access != api.Const && (r.once(5) || !c.entry.Limited || between(c.entry, v)) {
					w.set(slot(c.entry.Index, c.entry.Sub, 0), int64(v.N))
				}
			}
		}
		l := r.mapping(from.k, false)
		if Check(from.d, l, false) != fine || Check(to.d, l, true) != fine {
			continue
		}
		b, _ := from.pack(l)
		if to.unpack(l, b) != ok {
			refused++
			continue
		}
		whole++
		for _, s := range l {
			to.wantN(s, int64(from.k.at(s).v.N))
		}
		to.wantPack(b, ok, l...)
	}
	if whole < 1000 || refused < 20 {
		t.Fatal("too few of one kind:", whole, refused)
	}
}

// P13.3: with all values within their limits, and entries that may be read and written, it is never refused.
func TestThereAndBackTaken(t *testing.T) {
	for _, x := range numbers {
		entries := []api.Entry{mapped(0x2000, 0, api.ReadWrite, num(x.typ, 0)), mapped(0x2000, 1, api.ReadWrite, num(x.typ, 1))}
		l := []api.Slot{slot(0x2000, 1, x.bits), slot(0x2000, 0, x.bits)}[:max(1, min(2, 64/x.bits))]
		from, to := deskOf(t, entries...), deskOf(t, entries...)
		r := dice(x.typ)
		for range 200 {
			from.set(l[0], int64(r.n(x)))
			b, err := from.pack(l)
			if err != ok {
				t.Fatal(err)
			}
			to.wantUnpack(b, ok, l...)
			to.wantPack(b, ok, l...)
		}
	}
}

// P13.5, P13.6: what is told has as many bytes as Size says, at most 8; wherever a mapping is cut in two, it is that of the one, and then of the other.
func TestCutInTwo(t *testing.T) {
	r := dice(6)
	many := 0
	for range 2000 {
		w := deskOf(t, r.entries()...)
		l := r.mapping(w.k, false)
		b, err := w.pack(l)
		if err != ok {
			continue
		}
		if len(b) != Size(l) || len(b) > 8 {
			t.Fatalf("Pack(%v) has %d bytes, Size is %d", l, len(b), Size(l))
		}
		for i := range len(l) + 1 {
			first, _ := w.pack(l[:i])
			second, _ := w.pack(l[i:])
			if first+second != b {
				t.Fatalf("Pack(%v): %x, cut at %d: %x %x", l, b, i, first, second)
			}
		}
		if len(l) > 2 {
			many++
		}
	}
	if many < 300 {
		t.Fatal("too few mappings of several slots:", many)
	}
}

// P13.6: two mappings that can be have together at most 64 bits, or are none.
func TestTogetherTooLong(t *testing.T) {
	w := deskOf(t, mapped(0x2000, 0, api.ReadWrite, num(api.Uint32, 5)), mapped(0x2000, 1, api.ReadWrite, num(api.Uint8, 6)))
	word, one := slot(0x2000, 0, 32), slot(0x2000, 1, 8)
	w.wantPack("\x05\x00\x00\x00\x06", ok, word, one)
	w.wantPack("\x05\x00\x00\x00", ok, word)
	w.wantPack("\x05\x00\x00\x00\x05\x00\x00\x00", ok, word, word)
	w.wantPack("", errArg, word, one, word)
}
