package pdomap

import (
	"math"
	"slices"
	"testing"

	"tramway/api"
)

// all is a dictionary with an entry of each type at 0x2000, that may be mapped if it is a number; the sub-index is the type.
func all(t *testing.T) *desk {
	var l []api.Entry
	for _, x := range numbers {
		l = append(l, mapped(0x2000, uint8(x.typ), api.ReadWrite, num(x.typ, 1)))
	}
	for _, typ := range others {
		l = append(l, api.Entry{Index: 0x2000, Sub: uint8(typ), Access: api.ReadWrite, Default: api.Value{Type: typ, B: "12345678"}})
	}
	return deskOf(t, l...)
}

// P13.1: without a dictionary there is no object, whatever the slots are; with one, no slots are fine.
func TestCheckNil(t *testing.T) {
	for _, l := range [][]api.Slot{nil, {}, {slot(0x2000, 1, 8)}, make([]api.Slot, 100)} {
		for _, in := range []bool{false, true} {
			if code := Check(nil, l, in); code != noObject {
				t.Fatalf("Check without a dictionary: %08x", code)
			}
		}
		if b, err := Pack(nil, l); len(b) != 0 || err != errArg {
			t.Fatalf("Pack without a dictionary: %x %d", b, err)
		}
		if err := Unpack(nil, l, make([]byte, 8)); err != errArg {
			t.Fatalf("Unpack without a dictionary: %d", err)
		}
		if Same(nil, l, nil) || Same(nil, l, make([]byte, 8)) {
			t.Fatal("Same without a dictionary")
		}
	}
	w := all(t)
	w.wantCheck(fine, fine)
	w.wantPack("", ok)
	w.wantUnpack("", ok)
	w.wantUnpack("behind", ok)
	w = deskOf(t)
	w.wantCheck(fine, fine)
	w.wantCheck(noObject, noObject, slot(0, 0, 8))
	w.wantPack("", ok)
}

// P13.1: an index that is not there has no object, one that is there no such sub-index; neither bits nor a sum are looked at then.
func TestCheckPlaces(t *testing.T) {
	w := deskOf(t, mapped(0x2000, 1, api.ReadWrite, num(api.Uint8, 1)), mapped(0x2000, 3, api.ReadWrite, num(api.Uint64, 1)), mapped(0xffff, 255, api.ReadWrite, num(api.Bool, 1)))
	for _, bits := range []int{8, 0, 1, 64, 65, -8, math.MaxInt, math.MinInt} {
		for _, index := range []uint16{0, 1, 0x1fff, 0x2001, 0x20, 0xff00, 0xfffe} {
			for _, sub := range []uint8{0, 1, 3, 255} {
				w.wantCheck(noObject, noObject, slot(index, sub, bits))
				w.wantCheck(noObject, noObject, slot(0x2000, 3, 64), slot(index, sub, bits))
			}
		}
		for _, sub := range []uint8{0, 2, 4, 255} {
			w.wantCheck(noSub, noSub, slot(0x2000, sub, bits))
			w.wantCheck(noSub, noSub, slot(0x2000, 3, 64), slot(0x2000, sub, bits))
		}
	}
	w.wantCheck(fine, fine, slot(0xffff, 255, 8))
	w.wantCheck(noSub, noSub, slot(0xffff, 254, 8))
}

// P13.1: a slot has just the bits of its entry's type: 8 times its bytes, of a Bool 8, too.
func TestCheckBits(t *testing.T) {
	w := all(t)
	odd := []int{math.MaxInt, math.MinInt, 1 << 32, 1<<32 + 8, -1, -8, -16, -64}
	for bits := range 130 {
		odd = append(odd, bits)
	}
	for _, x := range numbers {
		for _, bits := range odd {
			want := uint32(noMap)
			if bits == x.bits {
				want = fine
			}
			w.wantCheck(want, want, slot(0x2000, uint8(x.typ), bits))
		}
	}
	for _, typ := range others {
		for _, bits := range odd {
			w.wantCheck(noMap, noMap, slot(0x2000, uint8(typ), bits))
		}
	}
}

// P13.1: an entry must be one that may be mapped; what comes goes to a ReadWrite or a WriteOnly one alone, what is told is not of a WriteOnly one.
func TestCheckAccess(t *testing.T) {
	for _, x := range numbers {
		for access, want := range map[int][2]uint32{
			api.ReadOnly:  {fine, noMap},
			api.WriteOnly: {noMap, fine},
			api.ReadWrite: {fine, fine},
			api.Const:     {fine, noMap},
		} {
			e := mapped(0x2000, 1, access, num(x.typ, 1))
			s := slot(0x2000, 1, x.bits)
			deskOf(t, e).wantCheck(want[0], want[1], s)
			e.Map = false
			deskOf(t, e).wantCheck(noMap, noMap, s)
		}
	}
}

// P13.1: up to 64 bits are fine, more are too long; that is told at the slot with which they are, behind what else is wrong with it, and ahead of the slots behind.
func TestCheckLong(t *testing.T) {
	w := all(t)
	of := func(typ int) api.Slot { return slot(0x2000, uint8(typ), numberOf(typ).bits) }
	eight := slices.Repeat([]api.Slot{of(api.Uint8)}, 8)
	w.wantCheck(fine, fine, eight...)
	w.wantCheck(mapLong, mapLong, append(eight, of(api.Bool))...)
	w.wantCheck(fine, fine, of(api.Int64))
	w.wantCheck(mapLong, mapLong, of(api.Int64), of(api.Int8))
	w.wantCheck(mapLong, mapLong, of(api.Int8), of(api.Int64))
	w.wantCheck(fine, fine, of(api.Uint32), of(api.Int16), of(api.Int8), of(api.Bool))
	w.wantCheck(mapLong, mapLong, of(api.Uint32), of(api.Int16), of(api.Int8), of(api.Int16))
	w.wantCheck(mapLong, mapLong, slices.Repeat([]api.Slot{of(api.Uint64)}, mostSlots+1)...)

	w.wantCheck(noMap, noMap, of(api.Uint64), slot(0x2000, api.Int8, 9))
	w.wantCheck(noMap, noMap, of(api.Uint64), slot(0x2000, api.Text, 8))
	w.wantCheck(mapLong, mapLong, of(api.Uint64), of(api.Int8), slot(1, 0, 8))
	w.wantCheck(mapLong, mapLong, of(api.Uint64), of(api.Int8), slot(0x2000, 99, 8))
	w.wantCheck(noMap, noMap, slot(0x2000, api.Int8, 7), slot(1, 0, 8))
	w.wantCheck(noObject, noObject, slot(1, 0, 8), slot(0x2000, api.Int8, 7))
	w.wantCheck(noMap, noMap, slot(0x2000, api.Int8, math.MaxInt), slot(0x2000, api.Int8, math.MaxInt))
}

// P13.1: with several slots, the first that is wrong is told, in whichever direction it is.
func TestCheckFirst(t *testing.T) {
	w := deskOf(t,
		mapped(0x2000, 1, api.ReadWrite, num(api.Uint8, 1)),
		mapped(0x2000, 2, api.ReadOnly, num(api.Uint8, 1)),
		mapped(0x2000, 3, api.WriteOnly, num(api.Uint8, 1)))
	a, told, comes := slot(0x2000, 1, 8), slot(0x2000, 2, 8), slot(0x2000, 3, 8)
	w.wantCheck(fine, noMap, a, told)
	w.wantCheck(noMap, fine, a, comes)
	w.wantCheck(noMap, noMap, told, comes)
	w.wantCheck(noSub, noMap, a, told, slot(0x2000, 4, 8), comes)
	w.wantCheck(noMap, noObject, a, comes, slot(0x1000, 4, 8), told)
}

// P13.1: Size adds the bits up, and counts a part of a byte as one, whatever the entries are.
func TestSize(t *testing.T) {
	wantSize(t, 0)
	for bits := range 65 {
		want := bits / 8
		if bits%8 > 0 {
			want++
		}
		wantSize(t, want, slot(0x2000, 1, bits))
		wantSize(t, want, slot(1, 0, bits), slot(9, 9, 0))
	}
	wantSize(t, 1, slot(1, 0, 1), slot(1, 1, 1))
	wantSize(t, 1, slot(1, 0, 3), slot(1, 1, 5))
	wantSize(t, 2, slot(1, 0, 4), slot(1, 1, 5))
	wantSize(t, 3, slot(1, 0, 8), slot(1, 1, 16))
	wantSize(t, 9, slot(1, 0, 64), slot(1, 1, 1))
	wantSize(t, 16, slot(1, 0, 64), slot(1, 1, 64))
}

// P13.1: a slot of fewer than 0 or more than 64 bits makes it 0, wherever it stands.
func TestSizeWrong(t *testing.T) {
	for _, bits := range []int{-1, -8, -64, 65, 72, 128, 1 << 32, math.MaxInt, math.MinInt} {
		wrong := slot(1, 0, bits)
		wantSize(t, 0, wrong)
		wantSize(t, 0, slot(1, 1, 64), wrong)
		wantSize(t, 0, wrong, slot(1, 1, 64))
		wantSize(t, 0, slot(1, 1, 8), wrong, slot(1, 1, 8), slot(1, 1, 64))
		wantSize(t, 0, wrong, wrong, wrong)
	}
}

// P13.1: 64 slots have a size, 65 none.
func TestSizeMany(t *testing.T) {
	for _, x := range []struct{ bits, want int }{{64, 512}, {8, 64}, {1, 8}, {0, 0}} {
		l := slices.Repeat([]api.Slot{slot(1, 0, x.bits)}, mostSlots)
		wantSize(t, x.want, l...)
		wantSize(t, (63*x.bits+7)/8, l[:63]...)
		wantSize(t, 0, append(l, slot(1, 0, x.bits))...)
		wantSize(t, 0, append(l, l...)...)
	}
}
