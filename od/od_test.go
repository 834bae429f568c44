package od

import (
	"slices"
	"strings"
	"testing"

	"tramway/api"
)

// The chapter's example.
func TestExample(t *testing.T) {
	d := made(t, limited(entry(0x2000, 0, api.ReadWrite, num(api.Uint8, 0)), num(api.Uint8, 0), num(api.Uint8, 5)))
	wantWrite(t, d, 0x2000, 0, "\x06", api.TooHigh)
	wantWrite(t, d, 0x2000, 0, "\x05\x00", api.TooLong)
	wantRead(t, d, 0x2000, 0, "\x00", api.Fine)
	wantWrite(t, d, 0x2000, 0, "\x05", api.Fine)
	wantRead(t, d, 0x2000, 0, "\x05", api.Fine)
}

// P8.1: no entry, as many as there may be, and one more, which is ErrLong whatever they are.
func TestCheckMany(t *testing.T) {
	wantCheck(t, api.OK)
	wantCheck(t, api.OK, []api.Entry{}...)
	var l []api.Entry
	for i := range mostList {
		l = append(l, entry(uint16(i/3), uint8(i%3), i%4, num(api.Uint16, int64(i))))
	}
	wantCheck(t, api.OK, l...)
	wantCheck(t, api.ErrThere, append(slices.Clone(l[:mostList-1]), l[0])...)
	wantCheck(t, api.ErrThere, append(slices.Clone(l[:mostList-1]), l[mostList-2])...)
	wantCheck(t, api.ErrLong, append(slices.Clone(l), entry(9999, 0, 0, num(api.Bool, 0)))...)
	wantCheck(t, api.ErrLong, append(slices.Clone(l), l[0])...)
	wantCheck(t, api.ErrLong, make([]api.Entry, mostList+1)...)
	wantCheck(t, api.ErrArg, make([]api.Entry, mostList)...)
}

// P8.1: a Default of each type, with each Access; one that can't be is types.Check's error.
func TestCheckDefault(t *testing.T) {
	for _, typ := range allTypes() {
		for _, access := range accesses {
			wantCheck(t, api.OK, entry(1, 2, access, num(typ, 1)))
			wantCheck(t, api.OK, entry(1, 2, access, dirty(num(typ, 1))))
		}
	}
	for _, access := range []int{-1, 4, 5, 258, -1 << 63, 1<<63 - 1} {
		wantCheck(t, api.ErrArg, entry(1, 2, access, num(api.Bool, 1)))
	}
	for _, v := range []api.Value{{}, {Type: 8}, {Type: -1, B: strings.Repeat("a", most+1)}, num(api.Bool, 2), num(api.Uint8, 256), num(api.Int8, 128), num(api.Int16, -32769), txt(api.Text, "\n")} {
		wantCheck(t, api.ErrArg, entry(1, 2, api.ReadWrite, v))
	}
	for _, typ := range others {
		wantCheck(t, api.OK, entry(1, 2, api.ReadWrite, txt(typ, strings.Repeat("a", most))))
		wantCheck(t, api.ErrLong, entry(1, 2, api.ReadWrite, txt(typ, strings.Repeat("a", most+1))))
	}
}

// P8.1: limits are of a number, of its type, can be, and have the Default between them, both ends too.
func TestCheckLimits(t *testing.T) {
	for _, typ := range others {
		wantCheck(t, api.ErrArg, limited(entry(1, 2, api.ReadWrite, txt(typ, "b")), txt(typ, "a"), txt(typ, "c")))
		wantCheck(t, api.ErrArg, limited(entry(1, 2, api.ReadWrite, txt(typ, "")), txt(typ, ""), txt(typ, "")))
	}
	for _, x := range numbers {
		e := entry(1, 2, api.ReadWrite, num(x.typ, 1))
		wantCheck(t, api.OK, limited(e, num(x.typ, 1), num(x.typ, 1)))
		wantCheck(t, api.OK, limited(e, num(x.typ, 0), num(x.typ, 1)))
		wantCheck(t, api.OK, limited(e, dirty(num(x.typ, 0)), dirty(num(x.typ, 1))))
		e.Default.N = 0
		wantCheck(t, api.OK, limited(e, num(x.typ, 0), num(x.typ, 1)))
		wantCheck(t, api.OK, limited(e, num(x.typ, 0), num(x.typ, 0)))
		wantCheck(t, api.ErrArg, limited(e, num(x.typ, 1), num(x.typ, 1)))
		e.Default.N = 1
		wantCheck(t, api.ErrArg, limited(e, num(x.typ, 0), num(x.typ, 0)))
		wantCheck(t, api.ErrArg, limited(e, api.Value{}, num(x.typ, 1)))
		wantCheck(t, api.ErrArg, limited(e, num(x.typ, 0), api.Value{}))
		for _, typ := range allTypes() {
			if typ != x.typ {
				wantCheck(t, api.ErrArg, limited(e, num(typ, 0), num(x.typ, 1)))
				wantCheck(t, api.ErrArg, limited(e, num(x.typ, 0), num(typ, 1)))
			}
		}
		// Limits that are not asked for may be anything.
		e.Min, e.Max = num(x.typ, 1), api.Value{Type: 99}
		wantCheck(t, api.OK, e)
	}
	e := entry(1, 2, api.ReadOnly, num(api.Int8, -3))
	wantCheck(t, api.OK, limited(e, num(api.Int8, -3), num(api.Int8, -3)))
	wantCheck(t, api.OK, limited(e, num(api.Int8, -128), num(api.Int8, 127)))
	wantCheck(t, api.ErrArg, limited(e, num(api.Int8, -2), num(api.Int8, 127)))
	wantCheck(t, api.ErrArg, limited(e, num(api.Int8, -128), num(api.Int8, -4)))
	wantCheck(t, api.ErrArg, limited(e, num(api.Int8, -129), num(api.Int8, 127)))
	wantCheck(t, api.ErrArg, limited(e, num(api.Int8, -128), num(api.Int8, 128)))
	wantCheck(t, api.ErrArg, limited(e, num(api.Int8, -3), txt(api.Text, strings.Repeat("a", most+1))))
	wantCheck(t, api.ErrArg, limited(e, txt(api.Text, strings.Repeat("a", most+1)), num(api.Int8, -3)))
	wantCheck(t, api.ErrArg, limited(entry(1, 2, 0, num(api.Bool, 1)), num(api.Bool, 0), num(api.Bool, 2)))
}

// P8.1: what may be mapped is a number.
func TestCheckMap(t *testing.T) {
	for _, typ := range allTypes() {
		e := entry(1, 2, api.ReadWrite, num(typ, 1))
		e.Map = true
		want := api.OK
		if slices.Contains(others, typ) {
			want = api.ErrArg
		}
		wantCheck(t, want, e)
	}
}

// P8.1: one Index and Sub twice, side by side and apart; the same Sub at another Index, and another Sub are others.
func TestCheckTwice(t *testing.T) {
	a, b := entry(1, 2, 0, num(api.Bool, 0)), entry(1, 3, 0, num(api.Bool, 0))
	c, d := entry(2, 2, 0, num(api.Bool, 0)), entry(0x102, 1, 0, num(api.Bool, 0))
	twin := entry(1, 2, api.Const, txt(api.Text, "x"))
	wantCheck(t, api.OK, a, b, c, d)
	wantCheck(t, api.ErrThere, a, a)
	wantCheck(t, api.ErrThere, a, twin)
	wantCheck(t, api.ErrThere, a, b, c, d, twin)
	wantCheck(t, api.ErrThere, b, a, c, twin, d)
	wantCheck(t, api.OK, entry(0, 0, 0, num(api.Bool, 0)), entry(0xffff, 255, 0, num(api.Bool, 0)), entry(0, 255, 0, num(api.Bool, 0)), entry(0xffff, 0, 0, num(api.Bool, 0)))
	wantCheck(t, api.ErrThere, entry(0, 0, 0, num(api.Bool, 0)), entry(0, 0, 0, num(api.Bool, 0)))
}

// P8.1: of several errors the first: in one entry in the document's order, of two entries the one of the first.
func TestCheckFirst(t *testing.T) {
	fine := entry(1, 2, 0, num(api.Bool, 0))
	long := entry(1, 2, 4, txt(api.Text, strings.Repeat("\n", most+1)))
	long.Map, long.Limited = true, true
	wrong := entry(1, 2, 4, num(api.Bool, 0))
	mapped := entry(1, 2, 0, txt(api.Text, ""))
	mapped.Map = true
	wantCheck(t, api.ErrLong, long)
	wantCheck(t, api.ErrLong, fine, long)
	wantCheck(t, api.ErrArg, fine, wrong)
	wantCheck(t, api.ErrArg, fine, mapped)
	wantCheck(t, api.ErrArg, fine, limited(fine, num(api.Bool, 1), num(api.Bool, 1)))
	wantCheck(t, api.ErrArg, wrong, long)
	wantCheck(t, api.ErrLong, long, wrong)
	wantCheck(t, api.ErrThere, fine, fine, long)
	wantCheck(t, api.ErrThere, fine, fine, wrong)
	wantCheck(t, api.ErrArg, fine, wrong, fine)
	wantCheck(t, api.ErrLong, fine, long, fine)
}

// P8.1: a new dictionary has each entry's Default, Plain, of each type and each Access.
func TestNew(t *testing.T) {
	var l []api.Entry
	for i, typ := range allTypes() {
		for _, access := range accesses {
			v := num(typ, 1)
			if slices.Contains(others, typ) {
				v = txt(typ, strings.Repeat("x", i))
			}
			l = append(l, entry(uint16(100-i), uint8(access), access, v))
		}
	}
	wantSame(t, made(t, l...), bookOf(l))
	for i := range l {
		l[i].Default = dirty(l[i].Default)
	}
	d := made(t, l...)
	wantSame(t, d, bookOf(l))
	d.Reset()
	wantSame(t, d, bookOf(l))
	wantSame(t, made(t), nil)
}

// P8.2: Read of what is not there, of one that may not be read, and of those that may.
func TestRead(t *testing.T) {
	d := made(t,
		entry(0x2000, 1, api.WriteOnly, num(api.Uint8, 7)), entry(0x2000, 3, api.ReadOnly, num(api.Int16, -2)),
		entry(0x2002, 0, api.Const, num(api.Uint32, 258)), entry(0x2002, 255, api.ReadWrite, txt(api.Octets, "\x00\xff")),
		entry(0x2003, 9, api.ReadWrite, txt(api.Text, "")), entry(0xffff, 255, api.Const, num(api.Bool, 1)))
	for _, index := range []uint16{0, 0x1fff, 0x2001, 0x2004, 0x20, 0x0120, 0xfffe} {
		for _, sub := range []uint8{0, 1, 9, 255} {
			wantRead(t, d, index, sub, "", api.NoObject)
		}
	}
	for _, sub := range []uint8{0, 2, 4, 255} {
		wantRead(t, d, 0x2000, sub, "", api.NoSub)
	}
	wantRead(t, d, 0x2002, 1, "", api.NoSub)
	wantRead(t, d, 0x2002, 254, "", api.NoSub)
	wantRead(t, d, 0xffff, 0, "", api.NoSub)
	wantRead(t, d, 0x2000, 1, "", api.NoRead)
	wantRead(t, d, 0x2000, 3, "\xfe\xff", api.Fine)
	wantRead(t, d, 0x2002, 0, "\x02\x01\x00\x00", api.Fine)
	wantRead(t, d, 0x2002, 255, "\x00\xff", api.Fine)
	wantRead(t, d, 0x2003, 9, "", api.Fine)
	wantRead(t, d, 0xffff, 255, "\x01", api.Fine)
	wantRead(t, made(t), 0, 0, "", api.NoObject)
}

// P8.2: May and Write of what is not there, and of what may not be written, whatever the bytes are.
func TestWriteRefused(t *testing.T) {
	d := made(t, entry(0x2000, 1, api.ReadOnly, num(api.Uint8, 7)), entry(0x2000, 2, api.Const, num(api.Uint8, 8)), limited(entry(0x2001, 0, api.Const, num(api.Uint8, 3)), num(api.Uint8, 3), num(api.Uint8, 3)))
	for _, b := range []string{"", "\x07", "\x09", "\x00\x00", strings.Repeat("a", most+1)} {
		wantWrite(t, d, 0x1fff, 1, b, api.NoObject)
		wantWrite(t, d, 0x2002, 0, b, api.NoObject)
		wantWrite(t, d, 0x2000, 0, b, api.NoSub)
		wantWrite(t, d, 0x2000, 3, b, api.NoSub)
		wantWrite(t, d, 0x2000, 1, b, api.NoWrite)
		wantWrite(t, d, 0x2000, 2, b, api.NoWrite)
		wantWrite(t, d, 0x2001, 0, b, api.NoWrite)
	}
	wantGet(t, d, 0x2000, 1, num(api.Uint8, 7), api.OK)
	wantGet(t, d, 0x2000, 2, num(api.Uint8, 8), api.OK)
	wantGet(t, d, 0x2001, 0, num(api.Uint8, 3), api.OK)
}

// P8.2: of each number one byte less, as many as it has, and one more, to WriteOnly and to ReadWrite entries.
func TestWriteNumbers(t *testing.T) {
	for _, x := range numbers {
		for _, access := range []int{api.WriteOnly, api.ReadWrite} {
			d := made(t, entry(5, 6, access, num(x.typ, 0)))
			wantWrite(t, d, 5, 6, strings.Repeat("\x01", x.size-1), api.TooShort)
			wantWrite(t, d, 5, 6, strings.Repeat("\x01", x.size+1), api.TooLong)
			wantWrite(t, d, 5, 6, strings.Repeat("\x02", x.size+1), api.TooLong)
			wantWrite(t, d, 5, 6, strings.Repeat("\x02", most+1), api.TooLong)
			wantWrite(t, d, 5, 6, "", api.TooShort)
			wantGet(t, d, 5, 6, num(x.typ, 0), api.OK)
			b := "\x01" + strings.Repeat("\x00", x.size-1)
			wantWrite(t, d, 5, 6, b, api.Fine)
			wantGet(t, d, 5, 6, num(x.typ, 1), api.OK)
			if access == api.ReadWrite {
				wantRead(t, d, 5, 6, b, api.Fine)
			} else {
				wantRead(t, d, 5, 6, "", api.NoRead)
			}
			b = strings.Repeat("\xff", x.size)
			switch {
			case x.typ == api.Bool:
				wantWrite(t, d, 5, 6, b, api.BadValue)
				wantWrite(t, d, 5, 6, "\x02", api.BadValue)
				wantGet(t, d, 5, 6, num(x.typ, 1), api.OK)
			case x.signed:
				wantWrite(t, d, 5, 6, b, api.Fine)
				wantGet(t, d, 5, 6, num(x.typ, -1), api.OK)
			default:
				wantWrite(t, d, 5, 6, b, api.Fine)
				wantGet(t, d, 5, 6, api.Value{Type: x.typ, N: 1<<(8*x.size) - 1}, api.OK)
			}
		}
	}
}

// P8.2: texts and the like: none, as many bytes as there may be, one more, and bytes that are no text.
func TestWriteTexts(t *testing.T) {
	for _, typ := range others {
		d := made(t, entry(5, 6, api.ReadWrite, txt(typ, "first")))
		for _, n := range []int{0, 1, 300, most - 1, most} {
			b := strings.Repeat("q", n)
			wantWrite(t, d, 5, 6, b, api.Fine)
			wantRead(t, d, 5, 6, b, api.Fine)
			wantGet(t, d, 5, 6, txt(typ, b), api.OK)
		}
		wantWrite(t, d, 5, 6, "kept", api.Fine)
		wantWrite(t, d, 5, 6, strings.Repeat("q", most+1), api.TooLong)
		wantWrite(t, d, 5, 6, strings.Repeat("\n", most+1), api.TooLong)
		wantRead(t, d, 5, 6, "kept", api.Fine)
		for _, b := range []string{"\x1f", "a\x7f", "\xff", "\x00"} {
			if typ == api.Text {
				wantWrite(t, d, 5, 6, b, api.BadValue)
				wantRead(t, d, 5, 6, "kept", api.Fine)
			} else {
				wantWrite(t, d, 5, 6, b, api.Fine)
				wantRead(t, d, 5, 6, b, api.Fine)
				wantWrite(t, d, 5, 6, "kept", api.Fine)
			}
		}
	}
}

// P8.2, P8.6: values at Min, at Max, between and one beyond each, signed ones on both sides of 0.
func TestWriteLimits(t *testing.T) {
	for _, x := range []struct {
		typ             int
		least, greatest int64
	}{
		{api.Int8, -3, 4}, {api.Int8, -5, -2}, {api.Int8, 2, 5}, {api.Int8, -1, 0}, {api.Int8, 0, 0}, {api.Int8, -127, 126},
		{api.Int16, -300, 300}, {api.Int16, -300, -256}, {api.Int32, -70000, 1}, {api.Int64, -1 << 62, 1 << 62}, {api.Int64, -1, 1},
		{api.Uint8, 2, 5}, {api.Uint8, 1, 254}, {api.Uint16, 255, 256}, {api.Uint32, 1, 65536}, {api.Uint64, 1, 1 << 62}, {api.Uint64, 2, 2},
	} {
		l := []api.Entry{limited(entry(5, 6, api.ReadWrite, num(x.typ, x.least)), dirty(num(x.typ, x.least)), dirty(num(x.typ, x.greatest)))}
		d, k := made(t, l...), bookOf(l)
		for _, n := range []int64{x.least, x.greatest, x.least/2 + x.greatest/2} {
			b, _ := rawOf(num(x.typ, n))
			wantWrite(t, d, 5, 6, b, api.Fine)
			k.write(5, 6, b)
			wantSame(t, d, k)
		}
		b, _ := rawOf(num(x.typ, x.greatest+1))
		wantWrite(t, d, 5, 6, b, api.TooHigh)
		b, _ = rawOf(num(x.typ, x.least-1))
		wantWrite(t, d, 5, 6, b, api.TooLow)
		wantWrite(t, d, 5, 6, b+"\x00", api.TooLong)
		wantSame(t, d, k)
	}
}

// P8.2, P8.6: the greatest numbers of 64 bits are above small ones, unless they are signed.
func TestWriteSigns(t *testing.T) {
	ones := strings.Repeat("\xff", 8)
	d := made(t,
		limited(entry(1, 0, api.WriteOnly, num(api.Uint64, 0)), num(api.Uint64, 0), num(api.Uint64, 9)),
		limited(entry(2, 0, api.WriteOnly, num(api.Int64, 0)), num(api.Int64, 0), num(api.Int64, 9)),
		limited(entry(3, 0, api.WriteOnly, num(api.Uint64, -1)), num(api.Uint64, -2), num(api.Uint64, -1)),
		limited(entry(4, 0, api.WriteOnly, num(api.Bool, 1)), num(api.Bool, 1), num(api.Bool, 1)),
		limited(entry(5, 0, api.WriteOnly, num(api.Bool, 0)), num(api.Bool, 0), num(api.Bool, 0)))
	wantWrite(t, d, 1, 0, ones, api.TooHigh)
	wantWrite(t, d, 2, 0, ones, api.TooLow)
	wantWrite(t, d, 3, 0, ones, api.Fine)
	wantWrite(t, d, 3, 0, "\xfd"+ones[1:], api.TooLow)
	wantWrite(t, d, 4, 0, "\x00", api.TooLow)
	wantWrite(t, d, 4, 0, "\x02", api.BadValue)
	wantWrite(t, d, 5, 0, "\x01", api.TooHigh)
	wantWrite(t, d, 5, 0, "\x02", api.BadValue)
}

// P8.3: Get of what is not there is ErrNone; a WriteOnly one has a value, too.
func TestGet(t *testing.T) {
	d := made(t, entry(5, 6, api.WriteOnly, num(api.Int8, -4)), entry(5, 8, api.Const, txt(api.Octets, "\x00")))
	wantGet(t, d, 4, 6, api.Value{}, api.ErrNone)
	wantGet(t, d, 5, 7, api.Value{}, api.ErrNone)
	wantGet(t, d, 5, 9, api.Value{}, api.ErrNone)
	wantGet(t, d, 6, 6, api.Value{}, api.ErrNone)
	wantGet(t, d, 5, 6, num(api.Int8, -4), api.OK)
	wantGet(t, d, 5, 8, txt(api.Octets, "\x00"), api.OK)
	wantGet(t, made(t), 0, 0, api.Value{}, api.ErrNone)
}

// P8.3: Set, whatever the limits and the Access, but never of a Const one.
func TestSet(t *testing.T) {
	for _, access := range accesses {
		d := made(t, limited(entry(5, 6, access, num(api.Int16, -2)), num(api.Int16, -3), num(api.Int16, 3)))
		wantSet(t, d, 5, 5, num(api.Int16, 1), api.ErrNone)
		wantSet(t, d, 5, 7, api.Value{}, api.ErrNone)
		wantSet(t, d, 4, 6, num(api.Int16, 1<<20), api.ErrNone)
		for _, v := range []api.Value{num(api.Uint16, 1), num(api.Int8, 1), num(api.Int32, 1), {}, num(99, 1), txt(api.Text, strings.Repeat("a", most+1)), num(api.Int16, 1<<15), num(api.Int16, -1<<15-1), num(api.Int16, 65535)} {
			wantSet(t, d, 5, 6, v, api.ErrArg)
			wantGet(t, d, 5, 6, num(api.Int16, -2), api.OK)
		}
		for _, n := range []int64{0, -3, 3, -4, 4, 1<<15 - 1, -1 << 15} {
			want, has := api.OK, num(api.Int16, n)
			if access == api.Const {
				want, has = api.ErrArg, num(api.Int16, -2)
			}
			wantSet(t, d, 5, 6, dirty(num(api.Int16, n)), want)
			wantGet(t, d, 5, 6, has, api.OK)
		}
	}
}

// P8.3: Set of texts: a long one is ErrLong, unless it is of another type, or the entry is Const.
func TestSetTexts(t *testing.T) {
	long := strings.Repeat("\n", most+1)
	for _, typ := range others {
		d := made(t, entry(5, 6, api.ReadOnly, txt(typ, "a")), entry(5, 7, api.Const, txt(typ, "b")))
		wantSet(t, d, 5, 6, txt(typ, long), api.ErrLong)
		wantSet(t, d, 5, 7, txt(typ, long), api.ErrArg)
		wantSet(t, d, 5, 7, txt(typ, "b"), api.ErrArg)
		for _, other := range allTypes() {
			if other != typ {
				wantSet(t, d, 5, 6, api.Value{Type: other, B: long}, api.ErrArg)
			}
		}
		want := api.OK
		if typ == api.Text {
			want = api.ErrArg
		}
		wantGet(t, d, 5, 6, txt(typ, "a"), api.OK)
		wantSet(t, d, 5, 6, txt(typ, "\x7f"), want)
		wantSet(t, d, 5, 6, dirty(txt(typ, "")), api.OK)
		wantGet(t, d, 5, 6, txt(typ, ""), api.OK)
		wantSet(t, d, 5, 6, dirty(txt(typ, strings.Repeat("z", most))), api.OK)
		wantGet(t, d, 5, 6, txt(typ, strings.Repeat("z", most)), api.OK)
		wantGet(t, d, 5, 7, txt(typ, "b"), api.OK)
	}
}

// P8.3: Entry and List tell what was handed in, the Default Plain, behind a Write, a Set and a Load as well; Reset brings it back.
func TestEntryListReset(t *testing.T) {
	mapped := limited(entry(0x2000, 2, api.ReadWrite, dirty(num(api.Uint8, 3))), num(api.Uint8, 1), dirty(num(api.Uint8, 9)))
	mapped.Map = true
	l := []api.Entry{
		mapped,
		entry(0x2000, 1, api.WriteOnly, txt(api.Text, "hi")),
		entry(0x1fff, 200, api.ReadOnly, num(api.Int32, -7)),
		entry(0x2001, 0, api.ReadWrite, dirty(txt(api.Domain, "\x00"))),
		entry(0x100, 0, api.Const, num(api.Bool, 1)),
	}
	l[2].Min, l[2].Max = txt(99, "any"), num(api.Bool, 7)
	d, k := made(t, l...), bookOf(l)
	for range 2 {
		wantSame(t, d, k)
		wantWrite(t, d, 0x2000, 2, "\x09", api.Fine)
		wantWrite(t, d, 0x2000, 1, "", api.Fine)
		wantSet(t, d, 0x1fff, 200, num(api.Int32, 1<<30), api.OK)
		wantLoad(t, d, savedAs(0x2001, 0, "abc"), api.OK)
		was := k
		k = bookOf(l)
		k.write(0x2000, 2, "\x09")
		k.write(0x2000, 1, "")
		k.set(0x1fff, 200, num(api.Int32, 1<<30))
		k.load(savedAs(0x2001, 0, "abc"))
		wantSame(t, d, k)
		d.Reset()
		k = was
		wantSame(t, d, k)
	}
	want := mapped
	want.Default = num(api.Uint8, 3)
	wantEntry(t, d, 0x2000, 2, want, true)
	wantEntry(t, d, 0x2000, 0, api.Entry{}, false)
	wantEntry(t, d, 0x2000, 3, api.Entry{}, false)
	wantEntry(t, d, 0x1000, 0, api.Entry{}, false)
	wantEntry(t, made(t), 0, 0, api.Entry{}, false)
	if l := made(t).List(); len(l) != 0 {
		t.Error(l)
	}
	var order []uint32
	for _, e := range d.List() {
		order = append(order, uint32(e.Index)<<8|uint32(e.Sub))
	}
	if !slices.Equal(order, []uint32{0x10000, 0x1fffc8, 0x200001, 0x200002, 0x200100}) {
		t.Errorf("%x", order)
	}
}

// What is handed in is neither changed nor kept, its spare room included, and no two answers share memory.
func TestMemory(t *testing.T) {
	room := []api.Entry{entry(9, 1, api.ReadWrite, txt(api.Octets, "abcd")), entry(8, 1, api.ReadWrite, num(api.Uint32, 5)), entry(7, 7, 3, num(api.Bool, 0))}
	whole := slices.Clone(room)
	d := made(t, room[:2]...)
	k := bookOf(whole[:2])
	if Check(room[:2]) != api.OK || !slices.Equal(room, whole) {
		t.Fatalf("what was handed in is changed: %v", room)
	}
	clear(room)
	wantSame(t, d, k)
	for _, s := range []string{"wxyz", savedAs(9, 1, "qrst")} {
		b := []byte(s + "spare")
		given := b[:len(s)]
		if len(s) == 4 {
			d.May(9, 1, given)
			wantSame(t, d, k)
			d.Write(9, 1, given)
			k.write(9, 1, s)
		} else {
			wantSame(t, d, k)
			d.Load(given)
			k.load(s)
		}
		if string(b) != s+"spare" {
			t.Fatalf("what was handed in is changed: %q", b)
		}
		clear(b)
		wantSame(t, d, k)
	}
	one, _ := d.Read(9, 1)
	two, _ := d.Read(9, 1)
	spoil(one, 0xee)
	if string(two) != "qrst" {
		t.Errorf("two answers of Read share memory: %q", two)
	}
	first, second := d.Save(), d.Save()
	spoil(first, 0xee)
	if string(second) != k.save() {
		t.Errorf("two answers of Save share memory: %x", second)
	}
	three, four := d.List(), d.List()
	spoil(three, api.Entry{})
	if four[0].Index != 8 || four[1].Default.B != "abcd" {
		t.Errorf("two answers of List share memory: %v", four)
	}
	wantSame(t, d, k)
}

// spoil writes over a list and its spare room.
func spoil[T any](l []T, with T) {
	l = l[:cap(l)]
	for i := range l {
		l[i] = with
	}
}
