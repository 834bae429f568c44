package pdomap

import (
	"slices"
	"testing"

	"tramway/api"
)

// three is a Uint8 5, an Int16 -2 from -5 to 5, and a Bool; behind them one that nobody maps.
func three(t *testing.T) (w *desk, a, b, c api.Slot) {
	w = deskOf(t,
		mapped(0x2000, 0, api.ReadWrite, num(api.Uint8, 5)),
		limited(mapped(0x2000, 1, api.ReadWrite, num(api.Int16, -2)), -5, 5),
		mapped(0x2001, 0, api.ReadWrite, num(api.Bool, 1)),
		mapped(0x2002, 0, api.ReadWrite, num(api.Uint32, 7)))
	return w, slot(0x2000, 0, 8), slot(0x2000, 1, 16), slot(0x2001, 0, 8)
}

// The chapter's example, and the other way about: a Uint8 5 and an Int16 -2 are 05 fe ff.
func TestPackByHand(t *testing.T) {
	w, a, b, c := three(t)
	w.wantPack("\x05\xfe\xff", ok, a, b)
	w.wantPack("\xfe\xff\x05", ok, b, a)
	w.wantPack("\x01", ok, c)
	w.wantPack("\x05\x01\x05\xfe\xff\x05", ok, a, c, a, b, a)
	w.wantPack("\x07\x00\x00\x00\x05", ok, slot(0x2002, 0, 32), a)
	w.wantPack("\x05\x07\x00\x00\x00", ok, a, slot(0x2002, 0, 32))
}

// P13.2: each type's values stand there as types.Encode tells them, at all their edges.
func TestPackTypes(t *testing.T) {
	for _, x := range []struct {
		typ int
		n   int64
		b   string
	}{
		{api.Bool, 0, "\x00"}, {api.Bool, 1, "\x01"},
		{api.Int8, -128, "\x80"}, {api.Int8, 127, "\x7f"},
		{api.Int16, -32768, "\x00\x80"}, {api.Int16, 258, "\x02\x01"},
		{api.Int32, -3, "\xfd\xff\xff\xff"}, {api.Int32, 1<<31 - 1, "\xff\xff\xff\x7f"},
		{api.Int64, -1 << 63, "\x00\x00\x00\x00\x00\x00\x00\x80"}, {api.Int64, -1, "\xff\xff\xff\xff\xff\xff\xff\xff"},
		{api.Uint8, 255, "\xff"}, {api.Uint16, 0xfffe, "\xfe\xff"}, {api.Uint32, 0x12345678, "\x78\x56\x34\x12"},
		{api.Uint64, 0x0123456789abcdef, "\xef\xcd\xab\x89\x67\x45\x23\x01"},
	} {
		w := deskOf(t, mapped(0x2000, 0, api.ReadWrite, num(x.typ, 0)), mapped(0x2000, 1, api.ReadWrite, num(api.Uint8, 9)))
		s, beside := slot(0x2000, 0, len(x.b)*8), slot(0x2000, 1, 8)
		w.wantUnpack(x.b, ok, s)
		w.wantN(s, x.n)
		w.wantPack(x.b, ok, s)
		if len(x.b) < 8 {
			w.wantPack("\x09"+x.b, ok, beside, s)
			w.wantPack(x.b+"\x09", ok, s, beside)
			w.set(s, 0)
			w.wantUnpack("\x08"+x.b, ok, beside, s)
			w.wantN(s, x.n)
			w.wantN(beside, 8)
		}
	}
}

// P13.2: a mapping that can't be is ErrArg, and nothing is told; one of what comes can't be told, and the other way about.
func TestPackRefused(t *testing.T) {
	w, a, b, c := three(t)
	for _, l := range [][]api.Slot{
		{slot(1, 0, 8)}, {slot(0x2000, 9, 8)}, {slot(0x2000, 0, 16)}, {a, b, c, slot(1, 0, 8)},
		slices.Repeat([]api.Slot{a}, 9), slices.Repeat([]api.Slot{a}, mostSlots+1),
	} {
		w.wantPack("", errArg, l...)
		w.wantUnpack("", errArg, l...)
		w.wantUnpack("\x01\x01\x01\x01\x01\x01\x01\x01\x01", errArg, l...)
		for _, raw := range []string{"", "\x05", "\x05\x05\x05\x05\x05\x05\x05\x05\x05"} {
			if Same(w.d, l, []byte(raw)) {
				t.Fatalf("Same(%v, %x)", l, raw)
			}
		}
	}
	for access, may := range map[int][2]bool{api.ReadOnly: {true, false}, api.WriteOnly: {false, true}, api.Const: {true, false}, api.ReadWrite: {true, true}} {
		w := deskOf(t, mapped(0x2000, 0, access, num(api.Uint8, 3)))
		told, errTold, taken := "\x03", ok, ok
		if !may[0] {
			told, errTold = "", errArg
		}
		if !may[1] {
			taken = errArg
		}
		w.wantPack(told, errTold, a)
		w.wantUnpack("\x04", taken, a)
		w.wantUnpack("", errArg, slot(0x2000, 0, 16))
	}
}

// P13.2: what was Set beyond the limits is told as it is.
func TestPackBeyondLimits(t *testing.T) {
	w, a, b, _ := three(t)
	w.set(b, 300)
	w.wantPack("\x05\x2c\x01", ok, a, b)
	w.wantUnpack("\x06\x2c\x01", errForm, a, b)
	w.wantN(a, 5)
	w.wantN(b, 300)
}

// P13.2: fewer bytes than the mapping has are ErrShort, whatever they are; bytes behind it play no part.
func TestUnpackLengths(t *testing.T) {
	w, a, b, c := three(t)
	for n := range 3 {
		w.wantUnpack("\x06\x01\x00"[:n], errShort, a, b)
		w.wantUnpack("\x06\x77\x77"[:n], errShort, a, b)
	}
	w.wantUnpack("", errShort, c)
	w.wantUnpack("\x06\x01\x00", ok, a, b)
	w.wantN(a, 6)
	w.wantN(b, 1)
	w.wantUnpack("\x07\x02\x00\xff", ok, a, b)
	w.wantUnpack("\x08\x03\x00 and more than eight", ok, a, b)
	w.wantN(a, 8)
	w.wantN(b, 3)
}

// P13.2, P13.4: a value that is refused, wherever it stands, is ErrForm, and none is written.
func TestUnpackForm(t *testing.T) {
	w, a, b, c := three(t)
	for _, x := range []struct {
		b string
		l []api.Slot
	}{
		{"\x06\x06\x00", []api.Slot{a, b}}, {"\x06\xfa\xff", []api.Slot{a, b}}, {"\x06\x00\x01", []api.Slot{a, b}},
		{"\x06\x00\x06", []api.Slot{b, a}}, {"\x02\x06", []api.Slot{c, a}}, {"\x06\x02", []api.Slot{a, c}}, {"\xff", []api.Slot{c}},
		{"\x00\x06\x01\x00\x06\x00", []api.Slot{c, a, b, b}}, {"\x00\x06\x06\x00\x01\x00", []api.Slot{c, a, b, b}},
	} {
		w.wantUnpack(x.b, errForm, x.l...)
		w.wantUnpack(x.b+"\x00", errForm, x.l...)
		w.wantUnpack(x.b[:len(x.b)-1], errShort, x.l...)
		w.wantN(a, 5)
		w.wantN(b, -2)
		w.wantN(c, 1)
	}
	for n := int64(-5); n <= 5; n++ {
		w.wantUnpack(string([]byte{byte(n), byte(n >> 8), 0}), ok, b, c)
		w.wantN(b, n)
		w.wantN(c, 0)
	}
	w.wantUnpack("\x05\x00\xff", ok, b)
}

// P13.2: what comes is put into a WriteOnly entry, too, with its limits.
func TestUnpackWriteOnly(t *testing.T) {
	w := deskOf(t, limited(mapped(0x2000, 0, api.WriteOnly, num(api.Uint8, 3)), 2, 4), mapped(0x2000, 1, api.ReadWrite, num(api.Int8, 3)))
	a, b := slot(0x2000, 0, 8), slot(0x2000, 1, 8)
	w.wantUnpack("\x04\xff", ok, a, b)
	w.wantN(a, 4)
	w.wantN(b, -1)
	w.wantUnpack("\x01\xfe", errForm, a, b)
	w.wantUnpack("\xfe\x05", errForm, b, a)
	w.wantN(a, 4)
	w.wantN(b, -1)
}

// P13.2: all are written in order: of an entry that stands there twice the last value counts.
func TestUnpackTwice(t *testing.T) {
	w, a, b, _ := three(t)
	w.wantUnpack("\x01\x02\x00\x09", ok, a, b, a)
	w.wantN(a, 9)
	w.wantN(b, 2)
	w.wantUnpack("\x07\x08\x06", ok, a, a, a)
	w.wantN(a, 6)
	w.wantPack("\x06\x06\x02\x00", ok, a, a, b)
}

// P13.2: Same is true of just the bytes that Pack tells: not of others, of fewer, of more.
func TestSame(t *testing.T) {
	w, a, b, _ := three(t)
	l := []api.Slot{a, b}
	for raw, want := range map[string]bool{
		"\x05\xfe\xff": true, "": false, "\x05\xfe": false, "\x05\xfe\xff\x00": false,
		"\x04\xfe\xff": false, "\x05\xff\xff": false, "\x05\xfe\xfe": false, "\xfe\xff\x05": false,
	} {
		if Same(w.d, l, []byte(raw)) != want {
			t.Fatalf("Same(%x): %v", raw, !want)
		}
	}
	if !Same(w.d, nil, nil) || !Same(w.d, []api.Slot{}, []byte{}) || Same(w.d, nil, []byte{0}) {
		t.Fatal("Same of no slots")
	}
	w.same()
}

// What is told is new memory, and what is handed in is not kept.
func TestMemory(t *testing.T) {
	w, a, b, _ := three(t)
	l := []api.Slot{a, b}
	p, _ := Pack(w.d, l)
	q, _ := Pack(w.d, l)
	clear(p[:cap(p)])
	if string(q) != "\x05\xfe\xff" {
		t.Fatalf("two answers share bytes: %x", q)
	}
	clear(q[:cap(q)])
	w.wantPack("\x05\xfe\xff", ok, a, b)
	raw := []byte("\x06\x01\x00")
	if err := Unpack(w.d, l, raw); err != ok {
		t.Fatal(err)
	}
	clear(raw)
	clear(l)
	w.wantN(a, 6)
	w.wantN(b, 1)
	w.k.unpack([]api.Slot{a, b}, "\x06\x01\x00")
	w.same()
}
