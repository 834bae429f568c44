package od

import (
	"strings"
	"testing"

	"tramway/api"
)

// saver is a dictionary with entries of each Access, and its book.
func saver(t *testing.T) (*Dict, book) {
	t.Helper()
	l := []api.Entry{
		entry(0x2001, 0, api.ReadWrite, txt(api.Text, "abc")),
		entry(0x2000, 5, api.ReadWrite, num(api.Int16, -2)),
		limited(entry(0x2000, 1, api.ReadWrite, num(api.Uint8, 3)), num(api.Uint8, 2), num(api.Uint8, 5)),
		entry(0x2000, 2, api.ReadOnly, num(api.Uint8, 3)),
		entry(0x2000, 3, api.WriteOnly, num(api.Uint8, 3)),
		entry(0x2000, 4, api.Const, num(api.Uint8, 3)),
		entry(0x2002, 0, api.ReadWrite, num(api.Bool, 0)),
		entry(0x2003, 0, api.ReadWrite, txt(api.Domain, "")),
	}
	return made(t, l...), bookOf(l)
}

// P8.4: bytes written out by hand; just the ReadWrite ones, by Index and Sub.
func TestSaveByHand(t *testing.T) {
	d, k := saver(t)
	wantSave(t, d, "\x00\x20\x01\x01\x00\x00\x00\x03"+
		"\x00\x20\x05\x02\x00\x00\x00\xfe\xff"+
		"\x01\x20\x00\x03\x00\x00\x00abc"+
		"\x02\x20\x00\x01\x00\x00\x00\x00"+
		"\x03\x20\x00\x00\x00\x00\x00")
	wantSame(t, d, k)
	wantSave(t, made(t), "")
	wantSave(t, made(t, entry(1, 1, api.ReadOnly, num(api.Bool, 1)), entry(1, 2, api.WriteOnly, num(api.Bool, 1)), entry(1, 3, api.Const, num(api.Bool, 1))), "")
	wantSave(t, made(t, entry(0xffff, 255, api.ReadWrite, txt(api.Text, "")), entry(0, 0, api.ReadWrite, num(api.Uint64, 1))), "\x00\x00\x00\x08\x00\x00\x00\x01\x00\x00\x00\x00\x00\x00\x00\xff\xff\xff\x00\x00\x00\x00")
}

// P8.4, P8.7: values of no bytes and of as many as there may be, and lengths of one, two and three bytes.
func TestSaveMany(t *testing.T) {
	for _, n := range []int{0, 1, 255, 256, 65535, most} {
		b := strings.Repeat("x", n)
		l := []api.Entry{entry(1, 1, api.ReadWrite, txt(api.Text, "")), entry(2, 2, api.ReadWrite, txt(api.Octets, b)), entry(3, 3, api.ReadWrite, txt(api.Domain, b))}
		d := made(t, l...)
		length := string([]byte{byte(n), byte(n / 256), byte(n / 65536), 0})
		want := "\x01\x00\x01\x00\x00\x00\x00" + "\x02\x00\x02" + length + b + "\x03\x00\x03" + length + b
		wantSave(t, d, want)
		for i := range l {
			l[i].Default.B = "other"
		}
		other := made(t, l...)
		wantLoad(t, other, want, api.OK)
		wantSave(t, other, want)
	}
}

// P8.4: all of it, some, one, none: those that are named have those values, the others theirs; limits play no part.
func TestLoad(t *testing.T) {
	for _, x := range [][]piece{
		{},
		{{0x2000, 1, "\x04"}},
		{{0x2000, 1, "\x00"}},
		{{0x2000, 1, "\xff"}},
		{{0x2000, 5, "\x00\x80"}},
		{{0x2000, 1, "\x02"}, {0x2003, 0, "\x00\xff\n"}},
		{{0x2000, 5, "\x01\x00"}, {0x2001, 0, ""}, {0x2002, 0, "\x01"}},
		{{0x2000, 1, "\x05"}, {0x2000, 5, "\x01\x00"}, {0x2001, 0, "text"}, {0x2002, 0, "\x01"}, {0x2003, 0, strings.Repeat("\n", most)}},
	} {
		d, k := saver(t)
		b := ""
		for _, p := range x {
			b += savedAs(p.index, p.sub, p.raw)
		}
		wantLoad(t, d, b, api.OK)
		if err := k.load(b); err != api.OK {
			t.Fatal(err)
		}
		wantSame(t, d, k)
		for _, p := range x {
			wantRead(t, d, p.index, p.sub, p.raw, api.Fine)
		}
	}
	d, k := saver(t)
	if err := d.Load(nil); err != api.OK {
		t.Error(err)
	}
	wantSame(t, d, k)
}

// P8.4, P8.5: what is refused, by which error, and that nothing is changed by it, though the entries ahead were good.
func TestLoadRefused(t *testing.T) {
	fine := savedAs(0x2000, 1, "\x04") + savedAs(0x2000, 5, "\x01\x00")
	behind := savedAs(0x2001, 0, "text")
	for _, x := range []struct {
		b    string
		want api.Errno
	}{
		// Cut short, and left over.
		{"\x00", api.ErrForm}, {"\x00\x20\x01\x01\x00\x00", api.ErrForm}, {"\x00\x20\x01\x01\x00\x00\x00", api.ErrForm},
		{"\x00\x20\x05\x02\x00\x00\x00\x01", api.ErrForm}, {"\x00\x20\x01\x01\x00\x00\x00\x04\x00", api.ErrForm}, {"\x00\x20\x01\xff\xff\xff\xff\x04", api.ErrForm},
		{"\x00\x20\x01\x01\x01\x00\x00\x04", api.ErrForm}, {"\x00\x20\x01\x01\x00\x01\x00\x04", api.ErrForm}, {"\x00\x20\x01\x01\x00\x00\x01\x04", api.ErrForm}, {"\x00\x20\x01\x01\x00\x00\x80\x04", api.ErrForm},
		// Cut short is ahead of not being there.
		{"\x00\x30\x00\x01\x00\x00\x00", api.ErrForm}, {"\x00\x30\x00\x00\x00\x00\x80ab", api.ErrForm},
		// Out of order, and twice.
		{savedAs(0x2000, 5, "\x01\x00") + savedAs(0x2000, 1, "\x04"), api.ErrForm}, {behind + fine, api.ErrForm}, {behind + savedAs(0x2000, 5, "\x00\x00"), api.ErrForm},
		{savedAs(0x2000, 1, "\x04") + savedAs(0x2000, 1, "\x04"), api.ErrForm}, {savedAs(0x2003, 0, "") + savedAs(0x2003, 0, ""), api.ErrForm},
		// Out of order is ahead of not being there, and of bytes that are refused.
		{behind + savedAs(0x1000, 0, ""), api.ErrForm}, {behind + savedAs(0x2000, 2, "\x03"), api.ErrForm}, {behind + savedAs(0x2000, 1, "\x04\x04"), api.ErrForm},
		// Not there, and not ReadWrite, whatever the bytes are.
		{savedAs(0x1000, 0, ""), api.ErrNone}, {savedAs(0x2000, 0, "\x04"), api.ErrNone}, {savedAs(0x2000, 6, "\x04"), api.ErrNone}, {savedAs(0xffff, 255, "\x04"), api.ErrNone}, {savedAs(0, 0, ""), api.ErrNone},
		{savedAs(0x2000, 2, "\x03"), api.ErrNone}, {savedAs(0x2000, 3, "\x03"), api.ErrNone}, {savedAs(0x2000, 4, "\x03"), api.ErrNone},
		{savedAs(0x2000, 2, ""), api.ErrNone}, {savedAs(0x2000, 3, "\x03\x03"), api.ErrNone}, {savedAs(0x2000, 4, strings.Repeat("a", most+1)), api.ErrNone},
		{savedAs(0x1000, 0, strings.Repeat("a", most+1)), api.ErrNone},
		// Bytes that are no value.
		{savedAs(0x2000, 1, ""), api.ErrForm}, {savedAs(0x2000, 1, "\x04\x00"), api.ErrForm}, {savedAs(0x2000, 5, "\x01"), api.ErrForm},
		{savedAs(0x2001, 0, "a\n"), api.ErrForm}, {savedAs(0x2002, 0, "\x02"), api.ErrForm}, {savedAs(0x2003, 0, strings.Repeat("a", most+1)), api.ErrForm},
		// Of a list, which entry is refused first says which error it is.
		{savedAs(0x1000, 0, "") + savedAs(0x2000, 1, ""), api.ErrNone}, {savedAs(0x2000, 1, "") + savedAs(0x3000, 0, ""), api.ErrForm},
		// No list at all is ahead of an entry that is not there or not ReadWrite, wherever that stands.
		{savedAs(0x1000, 0, "") + "\x00", api.ErrForm}, {savedAs(0x2000, 2, "\x03") + savedAs(0x2000, 1, "\x04"), api.ErrForm},
		{savedAs(0x2000, 0, "") + savedAs(0x2000, 0, ""), api.ErrForm}, {savedAs(0x2000, 3, "") + savedAs(0x2000, 5, "\x01\x00") + "\x01\x20\x00\x04\x00\x00\x00abc", api.ErrForm},
		{savedAs(0x1000, 0, "") + savedAs(0x2000, 5, "\x01\x00") + savedAs(0x2000, 1, "\x04"), api.ErrForm},
	} {
		for _, ahead := range []string{"", fine, fine + behind} {
			want := x.want
			b := ahead + x.b
			d, k := saver(t)
			if ahead != "" {
				// Behind others, what begins ahead of them is out of order.
				want = k.load(b)
			}
			wantLoad(t, d, b, want)
			if want == api.OK {
				t.Fatalf("%x is taken", b)
			}
			_, k = saver(t)
			wantSame(t, d, k)
		}
	}
	good := fine + behind
	for _, x := range []struct {
		b    string
		want api.Errno
	}{
		{"\x00", api.ErrForm}, {"\x02\x20\x00\x01\x00\x00\x00", api.ErrForm}, {savedAs(0x2001, 0, ""), api.ErrForm}, {savedAs(0x2000, 1, "\x02"), api.ErrForm},
		{savedAs(0x2001, 1, ""), api.ErrNone}, {savedAs(0x2004, 0, ""), api.ErrNone}, {savedAs(0x2002, 0, "\x02"), api.ErrForm}, {savedAs(0x2002, 0, ""), api.ErrForm},
		{savedAs(0x2003, 0, strings.Repeat("a", most+1)), api.ErrForm}, {savedAs(0x2003, 0, "a") + "\x04", api.ErrForm}, {savedAs(0x2004, 0, "a") + "\x04", api.ErrForm},
		{savedAs(0x2001, 1, "") + savedAs(0x2001, 0, ""), api.ErrForm}, {savedAs(0x2001, 1, "") + savedAs(0x2002, 0, "\x02"), api.ErrNone}, {savedAs(0x2002, 0, "\x02") + savedAs(0x2004, 0, ""), api.ErrForm},
	} {
		d, k := saver(t)
		wantLoad(t, d, good+x.b, x.want)
		wantSame(t, d, k)
	}
	// An entry of no bytes at the first place of all is behind nothing.
	d := made(t, entry(0, 0, api.ReadWrite, txt(api.Text, "a")))
	wantLoad(t, d, savedAs(0, 0, ""), api.OK)
	wantGet(t, d, 0, 0, txt(api.Text, ""), api.OK)
	wantLoad(t, d, savedAs(0, 0, "b")+savedAs(0, 0, "b"), api.ErrForm)
	wantGet(t, d, 0, 0, txt(api.Text, ""), api.OK)
}

// P8.4: what Save tells, cut off anywhere but between two entries, is refused; cut off there it is taken.
func TestLoadCut(t *testing.T) {
	d, k := saver(t)
	wantSet(t, d, 0x2003, 0, txt(api.Domain, "\x00\x01"), api.OK)
	whole := string(d.Save())
	for n := range len(whole) + 1 {
		d, k = saver(t)
		l, between := pieces(whole[:n])
		want := api.ErrForm
		if between {
			want = api.OK
			for _, p := range l {
				k.write(p.index, p.sub, p.raw)
			}
		}
		wantLoad(t, d, whole[:n], want)
		wantSame(t, d, k)
	}
}

// P8.4: whether bytes are a list is asked of all of them, ahead of what one entry says: a dictionary without entries, and one with few.
func TestLoadListFirst(t *testing.T) {
	few := []api.Entry{entry(1, 0, api.ReadWrite, num(api.Uint8, 1)), entry(3, 0, api.ReadOnly, num(api.Uint8, 1))}
	for _, x := range []struct {
		l    []api.Entry
		b    string
		want api.Errno
	}{
		{nil, "", api.OK}, {nil, "\x00", api.ErrForm}, {nil, savedAs(0, 0, ""), api.ErrNone}, {nil, savedAs(0, 0, "") + "\x00", api.ErrForm},
		{nil, savedAs(0, 0, "") + savedAs(0, 1, ""), api.ErrNone}, {nil, savedAs(0, 0, "") + savedAs(0, 0, ""), api.ErrForm},
		{few, savedAs(2, 0, "") + savedAs(1, 0, "\x07"), api.ErrForm}, {few, savedAs(1, 0, "\x07") + savedAs(2, 0, ""), api.ErrNone},
		{few, savedAs(1, 0, "\x07") + savedAs(3, 0, "\x07") + "\x04", api.ErrForm}, {few, savedAs(1, 0, "\x07") + savedAs(3, 0, "\x07"), api.ErrNone},
		{few, savedAs(1, 0, "\x07\x07") + savedAs(2, 0, ""), api.ErrForm}, {few, savedAs(1, 0, "\x07"), api.OK},
	} {
		d, k := made(t, x.l...), bookOf(x.l)
		wantLoad(t, d, x.b, x.want)
		if err := k.load(x.b); err != x.want {
			t.Fatalf("the book: %d, want %d", err, x.want)
		}
		wantSame(t, d, k)
	}
}
