package od

import (
	"encoding/binary"
	"math/big"
	"slices"
	"strings"
	"testing"

	"tramway/api"
)

const (
	most     = 65536 // bytes of a value
	mostList = 1024  // entries
)

// number is a type of numbers, told by hand.
type number struct {
	typ, size int
	signed    bool
}

var numbers = []number{
	{api.Bool, 1, false},
	{api.Int8, 1, true}, {api.Int16, 2, true}, {api.Int32, 4, true}, {api.Int64, 8, true},
	{api.Uint8, 1, false}, {api.Uint16, 2, false}, {api.Uint32, 4, false}, {api.Uint64, 8, false},
}

// others are the types that are no numbers.
var others = []int{api.Text, api.Octets, api.Domain}

var accesses = []int{api.ReadOnly, api.WriteOnly, api.ReadWrite, api.Const}

// allTypes are the twelve.
func allTypes() []int {
	l := slices.Clone(others)
	for _, x := range numbers {
		l = append(l, x.typ)
	}
	return l
}

func numberOf(typ int) (number, bool) {
	i := slices.IndexFunc(numbers, func(x number) bool { return x.typ == typ })
	if i < 0 {
		return number{}, false
	}
	return numbers[i], true
}

// num is a number's value; one below 0 has its sign in 64 bits.
func num(typ int, n int64) api.Value { return api.Value{Type: typ, N: uint64(n)} }

func txt(typ int, b string) api.Value { return api.Value{Type: typ, B: b} }

// dirty is the value with something where nothing plays a part.
func dirty(v api.Value) api.Value {
	if slices.Contains(others, v.Type) {
		v.N = 1<<64 - 7
	} else {
		v.B = "\x00\xff\n"
	}
	return v
}

// clean is the value with nothing where nothing plays a part.
func clean(v api.Value) api.Value {
	if slices.Contains(others, v.Type) {
		v.N = 0
	} else {
		v.B = ""
	}
	return v
}

func entry(index uint16, sub uint8, access int, v api.Value) api.Entry {
	return api.Entry{Index: index, Sub: sub, Access: access, Default: v}
}

func limited(e api.Entry, least, greatest api.Value) api.Entry {
	e.Limited, e.Min, e.Max = true, least, greatest
	return e
}

// row is an entry of a book, and the bytes of what it has: no value is kept.
type row struct {
	entry api.Entry
	raw   string
}

// book is a dictionary written otherwise: its rows lie in the order in which they were handed in, and are looked through one by one.
type book []*row

func bookOf(l []api.Entry) book {
	var k book
	for _, e := range l {
		raw, _ := rawOf(e.Default)
		k = append(k, &row{e, raw})
	}
	return k
}

// rawOf is a value's bytes, and whether it can be.
func rawOf(v api.Value) (string, bool) {
	x, is := numberOf(v.Type)
	if !is {
		odd := v.Type == api.Text && strings.ContainsFunc(v.B, func(r rune) bool { return r < 32 || r > 126 })
		return v.B, len(v.B) <= most && !odd
	}
	b := binary.LittleEndian.AppendUint64(nil, v.N)
	raw := string(b[:x.size])
	if v.Type == api.Bool && v.N > 1 {
		return raw, false
	}
	return raw, valueOf(v.Type, raw).N == v.N
}

// valueOf is the value of bytes, as many as the type has.
func valueOf(typ int, raw string) api.Value {
	x, is := numberOf(typ)
	if !is {
		return api.Value{Type: typ, B: raw}
	}
	n := meaning(x, raw)
	if n.Sign() < 0 {
		n.Add(n, new(big.Int).Lsh(big.NewInt(1), 64))
	}
	return api.Value{Type: typ, N: n.Uint64()}
}

// meaning is the number that bytes stand for.
func meaning(x number, raw string) *big.Int {
	b := []byte(raw)
	slices.Reverse(b)
	n := new(big.Int).SetBytes(b)
	if x.signed && b[0] >= 128 {
		n.Sub(n, new(big.Int).Lsh(big.NewInt(1), uint(8*x.size)))
	}
	return n
}

func (k book) at(index uint16, sub uint8) (*row, uint32) {
	code := api.NoObject
	for _, r := range k {
		if r.entry.Index != index {
			continue
		}
		if r.entry.Sub == sub {
			return r, api.Fine
		}
		code = api.NoSub
	}
	return nil, code
}

func (k book) read(index uint16, sub uint8) (string, uint32) {
	r, code := k.at(index, sub)
	if r != nil && r.entry.Access == api.WriteOnly {
		code = api.NoRead
	}
	if code != api.Fine {
		return "", code
	}
	return r.raw, api.Fine
}

// lengthCode is the code of a length, of a value that is none, or Fine.
func lengthCode(typ int, raw string) uint32 {
	x, is := numberOf(typ)
	switch {
	case is && len(raw) < x.size:
		return api.TooShort
	case is && len(raw) > x.size, len(raw) > most:
		return api.TooLong
	case typ == api.Bool && raw > "\x01":
		return api.BadValue
	case typ == api.Text && strings.Trim(raw, " !\"#$%&'()*+,-./0123456789:;<=>?@ABCDEFGHIJKLMNOPQRSTUVWXYZ[\\]^_`abcdefghijklmnopqrstuvwxyz{|}~") != "":
		return api.BadValue
	}
	return api.Fine
}

func (k book) may(index uint16, sub uint8, raw string) uint32 {
	r, code := k.at(index, sub)
	if r == nil {
		return code
	}
	if r.entry.Access == api.ReadOnly || r.entry.Access == api.Const {
		return api.NoWrite
	}
	if code = lengthCode(r.entry.Default.Type, raw); code != api.Fine || !r.entry.Limited {
		return code
	}
	x, _ := numberOf(r.entry.Default.Type)
	least, _ := rawOf(r.entry.Min)
	greatest, _ := rawOf(r.entry.Max)
	switch n := meaning(x, raw); {
	case n.Cmp(meaning(x, greatest)) > 0:
		return api.TooHigh
	case n.Cmp(meaning(x, least)) < 0:
		return api.TooLow
	}
	return api.Fine
}

func (k book) write(index uint16, sub uint8, raw string) uint32 {
	code := k.may(index, sub, raw)
	if code == api.Fine {
		r, _ := k.at(index, sub)
		r.raw = raw
	}
	return code
}

func (k book) set(index uint16, sub uint8, v api.Value) api.Errno {
	r, _ := k.at(index, sub)
	if r == nil {
		return api.ErrNone
	}
	raw, can := rawOf(v)
	switch {
	case r.entry.Access == api.Const || r.entry.Default.Type != v.Type:
		return api.ErrArg
	case slices.Contains(others, v.Type) && len(v.B) > most:
		return api.ErrLong
	case !can:
		return api.ErrArg
	}
	r.raw = raw
	return api.OK
}

func (k book) reset() {
	for _, r := range k {
		r.raw, _ = rawOf(r.entry.Default)
	}
}

// sorted is the rows by Index and Sub.
func (k book) sorted() book {
	l := slices.Clone(k)
	for i := range l {
		for j := i; j > 0 && (l[j].entry.Index < l[j-1].entry.Index || l[j].entry.Index == l[j-1].entry.Index && l[j].entry.Sub < l[j-1].entry.Sub); j-- {
			l[j], l[j-1] = l[j-1], l[j]
		}
	}
	return l
}

func (k book) save() string {
	s := ""
	for _, r := range k.sorted() {
		if r.entry.Access == api.ReadWrite {
			s += savedAs(r.entry.Index, r.entry.Sub, r.raw)
		}
	}
	return s
}

// savedAs is one entry of what Save tells.
func savedAs(index uint16, sub uint8, raw string) string {
	b := binary.LittleEndian.AppendUint16(nil, index)
	b = append(b, sub)
	b = binary.LittleEndian.AppendUint32(b, uint32(len(raw)))
	return string(b) + raw
}

// piece is an entry of what is loaded.
type piece struct {
	index uint16
	sub   uint8
	raw   string
}

// pieces cuts what is loaded as far as it goes: the entries, and whether nothing is left over.
func pieces(s string) ([]piece, bool) {
	var l []piece
	for len(s) >= 7 {
		n := int(binary.LittleEndian.Uint32([]byte(s[3:7])))
		if n > len(s)-7 {
			return l, false
		}
		l = append(l, piece{uint16(s[0]) + 256*uint16(s[1]), s[2], s[7 : 7+n]})
		s = s[7+n:]
	}
	return l, s == ""
}

func (k book) load(s string) api.Errno {
	l, whole := pieces(s)
	for i := range l {
		for _, p := range l[:i] {
			whole = whole && (p.index < l[i].index || p.index == l[i].index && p.sub < l[i].sub)
		}
	}
	if !whole {
		return api.ErrForm
	}
	for _, p := range l {
		r, _ := k.at(p.index, p.sub)
		if r == nil || r.entry.Access != api.ReadWrite {
			return api.ErrNone
		}
		if lengthCode(r.entry.Default.Type, p.raw) != api.Fine {
			return api.ErrForm
		}
	}
	for _, p := range l {
		r, _ := k.at(p.index, p.sub)
		r.raw = p.raw
	}
	return api.OK
}

// short is a text for a fault's report, cut off.
func short(s string) string { return s[:min(len(s), 40)] }

// made is a dictionary that must be made.
func made(t *testing.T, l ...api.Entry) *Dict {
	t.Helper()
	d, err := New(l)
	if d == nil || err != api.OK {
		t.Fatalf("New of %d entries: %v %d", len(l), d, err)
	}
	return d
}

func wantCheck(t *testing.T, want api.Errno, l ...api.Entry) {
	t.Helper()
	if err := Check(l); err != want {
		t.Fatalf("Check of %d entries: %d, want %d", len(l), err, want)
	}
	d, err := New(l)
	if err != want || (d != nil) != (want == api.OK) {
		t.Fatalf("New of %d entries: %v %d, want %d", len(l), d, err, want)
	}
}

func wantRead(t *testing.T, d *Dict, index uint16, sub uint8, want string, wanted uint32) {
	t.Helper()
	if b, code := d.Read(index, sub); string(b) != want || code != wanted {
		t.Fatalf("Read(%04x, %d): %x of %d, %08x, want %x of %d, %08x", index, sub, short(string(b)), len(b), code, short(want), len(want), wanted)
	}
}

func wantGet(t *testing.T, d *Dict, index uint16, sub uint8, want api.Value, wanted api.Errno) {
	t.Helper()
	if v, err := d.Get(index, sub); v != want || err != wanted {
		t.Fatalf("Get(%04x, %d): %d, %d, %q of %d, %d, want %d, %d, %q of %d, %d", index, sub, v.Type, v.N, short(v.B), len(v.B), err, want.Type, want.N, short(want.B), len(want.B), wanted)
	}
}

func wantSet(t *testing.T, d *Dict, index uint16, sub uint8, v api.Value, want api.Errno) {
	t.Helper()
	if err := d.Set(index, sub, v); err != want {
		t.Fatalf("Set(%04x, %d, (%d, %d, %q of %d)): %d, want %d", index, sub, v.Type, v.N, short(v.B), len(v.B), err, want)
	}
}

// wantWrite asks whether it may, then writes: the codes are alike.
func wantWrite(t *testing.T, d *Dict, index uint16, sub uint8, b string, want uint32) {
	t.Helper()
	was := string(d.Save())
	if code := d.May(index, sub, []byte(b)); code != want {
		t.Fatalf("May(%04x, %d, %x of %d): %08x, want %08x", index, sub, short(b), len(b), code, want)
	}
	if string(d.Save()) != was {
		t.Fatalf("May(%04x, %d, %x of %d) changes what is saved", index, sub, short(b), len(b))
	}
	if code := d.Write(index, sub, []byte(b)); code != want {
		t.Fatalf("Write(%04x, %d, %x of %d): %08x, want %08x", index, sub, short(b), len(b), code, want)
	}
}

func wantEntry(t *testing.T, d *Dict, index uint16, sub uint8, want api.Entry, wanted bool) {
	t.Helper()
	if e, is := d.Entry(index, sub); e != want || is != wanted {
		t.Fatalf("Entry(%04x, %d): %+v %v, want %+v %v", index, sub, e, is, want, wanted)
	}
}

func wantSave(t *testing.T, d *Dict, want string) {
	t.Helper()
	if b := string(d.Save()); b != want {
		t.Fatalf("Save: %x of %d, want %x of %d", short(b), len(b), short(want), len(want))
	}
}

func wantLoad(t *testing.T, d *Dict, b string, want api.Errno) {
	t.Helper()
	if err := d.Load([]byte(b)); err != want {
		t.Fatalf("Load(%x of %d): %d, want %d", short(b), len(b), err, want)
	}
}

// wantSame looks whether a dictionary is as its book says, without changing it.
func wantSame(t *testing.T, d *Dict, k book) {
	t.Helper()
	list := d.List()
	if len(list) != len(k) {
		t.Fatalf("List has %d entries, want %d", len(list), len(k))
	}
	for i, r := range k.sorted() {
		e := r.entry
		wantGet(t, d, e.Index, e.Sub, valueOf(e.Default.Type, r.raw), api.OK)
		b, code := k.read(e.Index, e.Sub)
		wantRead(t, d, e.Index, e.Sub, b, code)
		e.Default = clean(e.Default)
		wantEntry(t, d, e.Index, e.Sub, e, true)
		if list[i] != e {
			t.Fatalf("List[%d]: %+v, want %+v", i, list[i], e)
		}
	}
	wantSave(t, d, k.save())
}

// dice is a source of numbers that are the same at each run.
type dice uint64

func (d *dice) next() uint64 {
	*d ^= *d << 13
	*d ^= *d >> 7
	*d ^= *d << 17
	return uint64(*d)
}

// below is a number from 0 to n, less 1.
func (d *dice) below(n int) int { return int(d.next() % uint64(n)) }

func (d *dice) once(in int) bool { return d.below(in) == 0 }

// raw is bytes for a type: mostly a value's, mostly small numbers on both sides of 0, now and then too few, too many, or none of a value.
func (d *dice) raw(typ int) string {
	b := binary.LittleEndian.AppendUint64(nil, uint64(int64(d.below(13)-6)))
	x, is := numberOf(typ)
	switch {
	case d.once(8):
		b = binary.LittleEndian.AppendUint64(nil, d.next())
	case !is:
		b = []byte("a ~Zb\"0!")
		if d.once(4) {
			b[d.below(8)] = "\x00\x1f\x7f\xff"[d.below(4)]
		}
	case typ == api.Bool:
		b[0] = byte(d.below(3))
	}
	if !is {
		return string(b[:d.below(8)])
	}
	n := x.size
	if d.once(10) {
		n = d.below(9)
	}
	return string(b[:n])
}

// value is a value of a type that can be, now and then with something that plays no part.
func (d *dice) value(typ int) api.Value {
	for {
		raw := d.raw(typ)
		if lengthCode(typ, raw) == api.Fine {
			v := valueOf(typ, raw)
			if d.once(3) {
				v = dirty(v)
			}
			return v
		}
	}
}

// place is one of few, so that many are asked for that are there, and many that lie beside them.
func (d *dice) place() (uint16, uint8) {
	return []uint16{0, 1, 0xff, 0x100, 0x1000, 0x2000, 0x2001, 0xffff}[d.below(8)], []uint8{0, 1, 2, 3, 127, 128, 254, 255}[d.below(8)]
}

// entries are those of a dictionary that can be.
func (d *dice) entries() []api.Entry {
	var l []api.Entry
	types := allTypes()
	for range d.below(24) {
		index, sub := d.place()
		if slices.ContainsFunc(l, func(e api.Entry) bool { return e.Index == index && e.Sub == sub }) {
			continue
		}
		e := entry(index, sub, accesses[d.below(4)], d.value(types[d.below(len(types))]))
		x, is := numberOf(e.Default.Type)
		e.Map = is && d.once(2)
		switch {
		case is && d.once(2):
			e = limited(e, d.value(x.typ), d.value(x.typ))
			least, _ := rawOf(e.Min)
			greatest, _ := rawOf(e.Max)
			first, _ := rawOf(e.Default)
			if meaning(x, least).Cmp(meaning(x, first)) > 0 {
				e.Min = e.Default
			}
			if meaning(x, greatest).Cmp(meaning(x, first)) < 0 {
				e.Max = e.Default
			}
		case d.once(3):
			// Limits of an entry that is not Limited play no part, whatever they are.
			e.Min, e.Max = api.Value{Type: 99, N: 7, B: "x"}, d.value(api.Text)
		}
		l = append(l, e)
	}
	return l
}

// shuffled is the entries in another order.
func (d *dice) shuffled(l []api.Entry) []api.Entry {
	l = slices.Clone(l)
	for i := range l {
		j := i + d.below(len(l)-i)
		l[i], l[j] = l[j], l[i]
	}
	return l
}
