package pdomap

import (
	"encoding/binary"
	"slices"
	"strings"
	"testing"

	"tramway/api"
	"tramway/od"
)

// The codes, by hand.
const (
	fine     = 0
	noObject = 0x06020000
	noSub    = 0x06090011
	noMap    = 0x06040041
	mapLong  = 0x06040042
)

// The errors, by hand.
const (
	ok       api.Errno = 0
	errArg   api.Errno = 1
	errShort api.Errno = 3
	errForm  api.Errno = 8
)

const mostSlots = 64

// number is a type of numbers, told by hand.
type number struct {
	typ, bits int
	signed    bool
}

var numbers = []number{
	{api.Bool, 8, false},
	{api.Int8, 8, true}, {api.Int16, 16, true}, {api.Int32, 32, true}, {api.Int64, 64, true},
	{api.Uint8, 8, false}, {api.Uint16, 16, false}, {api.Uint32, 32, false}, {api.Uint64, 64, false},
}

// others are the types that are no numbers.
var others = []int{api.Text, api.Octets, api.Domain}

func numberOf(typ int) number {
	i := slices.IndexFunc(numbers, func(x number) bool { return x.typ == typ })
	if i < 0 {
		return number{typ: typ}
	}
	return numbers[i]
}

// num is a number's value; one below 0 has its sign in 64 bits.
func num(typ int, n int64) api.Value { return api.Value{Type: typ, N: uint64(n)} }

// mapped is an entry that may be mapped.
func mapped(index uint16, sub uint8, access int, v api.Value) api.Entry {
	return api.Entry{Index: index, Sub: sub, Access: access, Map: true, Default: v}
}

func limited(e api.Entry, least, greatest int64) api.Entry {
	e.Limited, e.Min, e.Max = true, num(e.Default.Type, least), num(e.Default.Type, greatest)
	return e
}

func slot(index uint16, sub uint8, bits int) api.Slot {
	return api.Slot{Index: index, Sub: sub, Bits: bits}
}

// sheet is entries and what they have, in the order in which they were handed in.
type sheet []*cell

type cell struct {
	entry api.Entry
	v     api.Value
}

func sheetOf(l []api.Entry) sheet {
	var k sheet
	for _, e := range l {
		k = append(k, &cell{e, e.Default})
	}
	return k
}

func (k sheet) at(s api.Slot) *cell {
	for _, c := range k {
		if c.entry.Index == s.Index && c.entry.Sub == s.Sub {
			return c
		}
	}
	return nil
}

func total(l []api.Slot) int {
	n := 0
	for _, s := range l {
		n += s.Bits
	}
	return n
}

// check tells of each slot its own code, and that of those ahead together.
func (k sheet) check(l []api.Slot, in bool) uint32 {
	for i, s := range l {
		c := k.at(s)
		allowed := []int{api.ReadOnly, api.Const, api.ReadWrite}
		if in {
			allowed = []int{api.WriteOnly, api.ReadWrite}
		}
		switch {
		case c == nil && !slices.ContainsFunc(k, func(c *cell) bool { return c.entry.Index == s.Index }):
			return noObject
		case c == nil:
			return noSub
		case !c.entry.Map, numberOf(c.v.Type).bits != s.Bits, !slices.Contains(allowed, c.entry.Access):
			return noMap
		case total(l[:i+1]) > 64:
			return mapLong
		}
	}
	return fine
}

// pack is the values in one number of 64 bits, each shifted behind those ahead.
func (k sheet) pack(l []api.Slot) (string, api.Errno) {
	if k.check(l, false) != fine {
		return "", errArg
	}
	var all uint64
	for i := len(l) - 1; i >= 0; i-- {
		all = all<<l[i].Bits | k.at(l[i]).v.N&(1<<l[i].Bits-1)
	}
	return string(binary.LittleEndian.AppendUint64(nil, all)[:total(l)/8]), ok
}

// unpack takes them out of such a number.
func (k sheet) unpack(l []api.Slot, b string) api.Errno {
	switch {
	case k.check(l, true) != fine:
		return errArg
	case 8*len(b) < total(l):
		return errShort
	}
	all := binary.LittleEndian.Uint64([]byte(b[:total(l)/8] + strings.Repeat("\x00", 8)))
	next := map[*cell]api.Value{}
	for _, s := range l {
		c := k.at(s)
		v := c.v
		v.N = all & (1<<s.Bits - 1)
		if numberOf(v.Type).signed && v.N>>(s.Bits-1) == 1 {
			v.N -= 1 << s.Bits
		}
		if v.Type == api.Bool && v.N > 1 || c.entry.Limited && !between(c.entry, v) {
			return errForm
		}
		next[c] = v
		all >>= s.Bits
	}
	for c, v := range next {
		c.v = v
	}
	return ok
}

// between tells whether a value is within an entry's limits: with 2^63 put to them, signed numbers are in the order of unsigned ones.
func between(e api.Entry, v api.Value) bool {
	var up uint64
	if numberOf(v.Type).signed {
		up = 1 << 63
	}
	return e.Min.N+up <= v.N+up && v.N+up <= e.Max.N+up
}

// desk is a dictionary and the sheet that it is held against, call by call.
type desk struct {
	t *testing.T
	d *od.Dict
	k sheet
}

func deskOf(t *testing.T, l ...api.Entry) *desk {
	t.Helper()
	d, err := od.New(l)
	if d == nil || err != ok {
		t.Fatalf("New of %d entries: %d", len(l), err)
	}
	return &desk{t, d, sheetOf(l)}
}

// set gives an entry a value from within, whatever its limits.
func (w *desk) set(s api.Slot, n int64) {
	w.t.Helper()
	c := w.k.at(s)
	v := num(c.entry.Default.Type, n)
	if err := w.d.Set(s.Index, s.Sub, v); err != ok {
		w.t.Fatalf("Set(%04x, %d, %d): %d", s.Index, s.Sub, n, err)
	}
	c.v = v
}

// same looks whether all entries have what the sheet says.
func (w *desk) same() {
	w.t.Helper()
	for _, c := range w.k {
		if v, err := w.d.Get(c.entry.Index, c.entry.Sub); v != c.v || err != ok {
			w.t.Fatalf("%04x, %d has %+v, want %+v", c.entry.Index, c.entry.Sub, v, c.v)
		}
	}
}

// check looks at what Check tells, which changes nothing.
func (w *desk) check(l []api.Slot, in bool) uint32 {
	w.t.Helper()
	was := slices.Clone(l)
	code := Check(w.d, l, in)
	if want := w.k.check(l, in); code != want {
		w.t.Fatalf("Check(%v, %v): %08x, want %08x", l, in, code, want)
	}
	if !slices.Equal(l, was) {
		w.t.Fatalf("Check changed its slots: %v, were %v", l, was)
	}
	w.same()
	return code
}

// pack looks at what Pack and Same tell, which change nothing.
func (w *desk) pack(l []api.Slot) (string, api.Errno) {
	w.t.Helper()
	was := slices.Clone(l)
	b, err := Pack(w.d, l)
	want, wanted := w.k.pack(l)
	if string(b) != want || err != wanted {
		w.t.Fatalf("Pack(%v): %x %d, want %x %d", l, b, err, want, wanted)
	}
	if Same(w.d, l, b) != (wanted == ok) {
		w.t.Fatalf("Same(%v, %x): %v", l, b, wanted != ok)
	}
	if Same(w.d, l, append(b, 0)) {
		w.t.Fatalf("Same(%v, %x): true with a byte more", l, b)
	}
	if !slices.Equal(l, was) {
		w.t.Fatalf("Pack or Same changed its slots: %v, were %v", l, was)
	}
	w.same()
	return string(b), err
}

// unpack looks at what Unpack tells, and at what all entries have then.
func (w *desk) unpack(l []api.Slot, b string) api.Errno {
	w.t.Helper()
	was, raw := slices.Clone(l), append([]byte(b), "spare"...)
	err := Unpack(w.d, l, raw[:len(b)])
	if want := w.k.unpack(l, b); err != want {
		w.t.Fatalf("Unpack(%v, %x): %d, want %d", l, b, err, want)
	}
	if !slices.Equal(l, was) || string(raw) != b+"spare" {
		w.t.Fatalf("Unpack changed its arguments: %v %x, were %v %x", l, raw, was, b)
	}
	w.same()
	return err
}

// wantCheck looks at both directions.
func (w *desk) wantCheck(out, in uint32, l ...api.Slot) {
	w.t.Helper()
	if code := w.check(l, false); code != out {
		w.t.Fatalf("Check(%v) of what is told: %08x, want %08x", l, code, out)
	}
	if code := w.check(l, true); code != in {
		w.t.Fatalf("Check(%v) of what comes: %08x, want %08x", l, code, in)
	}
}

func (w *desk) wantPack(want string, wanted api.Errno, l ...api.Slot) {
	w.t.Helper()
	if b, err := w.pack(l); b != want || err != wanted {
		w.t.Fatalf("Pack(%v): %x %d, want %x %d", l, b, err, want, wanted)
	}
}

func (w *desk) wantUnpack(b string, want api.Errno, l ...api.Slot) {
	w.t.Helper()
	if err := w.unpack(l, b); err != want {
		w.t.Fatalf("Unpack(%v, %x): %d, want %d", l, b, err, want)
	}
}

// wantN looks at the number that an entry has.
func (w *desk) wantN(s api.Slot, want int64) {
	w.t.Helper()
	if v, err := w.d.Get(s.Index, s.Sub); int64(v.N) != want || err != ok {
		w.t.Fatalf("%04x, %d has %d (%d), want %d", s.Index, s.Sub, int64(v.N), err, want)
	}
}

func wantSize(t *testing.T, want int, l ...api.Slot) {
	t.Helper()
	if n := Size(l); n != want {
		t.Fatalf("Size of %d slots: %d, want %d", len(l), n, want)
	}
}

// dice is a source of numbers that are the same at each run.
type dice uint64

func (r *dice) next() uint64 {
	*r ^= *r << 13
	*r ^= *r >> 7
	*r ^= *r << 17
	return uint64(*r)
}

// below is a number from 0 to n, less 1.
func (r *dice) below(n int) int { return int(r.next() % uint64(n)) }

func (r *dice) once(in int) bool { return r.below(in) == 0 }

// n is a number of a type, mostly a small one on either side of 0, now and then any.
func (r *dice) n(x number) uint64 {
	n := int64(r.below(21) - 10)
	if r.once(4) {
		n = int64(r.next())
	}
	switch {
	case x.typ == api.Bool:
		return uint64(n) & 1
	case x.signed:
		return uint64(n << (64 - x.bits) >> (64 - x.bits))
	}
	return uint64(n) << (64 - x.bits) >> (64 - x.bits)
}

// entry is one of a dictionary: mostly one that may be mapped, read and written.
func (r *dice) entry(index uint16, sub uint8) api.Entry {
	if r.once(12) {
		return api.Entry{Index: index, Sub: sub, Access: r.below(4), Default: api.Value{Type: others[r.below(3)], B: "text"}}
	}
	x := numbers[r.below(len(numbers))]
	e := mapped(index, sub, api.ReadWrite, api.Value{Type: x.typ, N: r.n(x)})
	if r.once(5) {
		e.Access = r.below(4)
	}
	e.Map = !r.once(12)
	if r.once(3) {
		e.Limited, e.Min, e.Max = true, e.Default, e.Default
		for range 3 {
			// Each further number makes the limits wider, if need be.
			v := api.Value{Type: x.typ, N: r.n(x)}
			if !between(e, v) && between(api.Entry{Min: v, Max: e.Max}, e.Default) {
				e.Min = v
			} else if !between(e, v) {
				e.Max = v
			}
		}
	}
	return e
}

// entries are those of a dictionary.
func (r *dice) entries() []api.Entry {
	var l []api.Entry
	for range 2 + r.below(24) {
		index, sub := uint16(0x2000+r.below(4)), uint8(r.below(8))
		if !slices.ContainsFunc(l, func(e api.Entry) bool { return e.Index == index && e.Sub == sub }) {
			l = append(l, r.entry(index, sub))
		}
	}
	return l
}

// mapping is slots of a sheet's entries, mostly such as can be.
func (r *dice) mapping(k sheet, in bool) []api.Slot {
	var l []api.Slot
	for range r.below(7) {
		e := k[r.below(len(k))].entry
		s := slot(e.Index, e.Sub, numberOf(e.Default.Type).bits)
		if k.check(append(l, s), in) == fine {
			l = append(l, s)
		}
	}
	for i := range l {
		switch r.below(60) {
		case 0:
			l[i].Bits += r.below(17) - 8
		case 1:
			l[i].Sub += uint8(r.below(9))
		case 2:
			l[i].Index += uint16(r.below(5))
		case 3:
			l = append(l, l[i])
		}
	}
	return l
}

// bytes is something to unpack: mostly of the mapping's own values or small ones, mostly as many as there must be.
func (r *dice) bytes(k sheet, l []api.Slot) string {
	b := ""
	for _, s := range l {
		if c := k.at(s); c != nil {
			n := c.v.N
			if !r.once(3) {
				n = r.n(numberOf(c.v.Type))
			}
			if r.once(40) {
				n = r.next()
			}
			b += string(binary.LittleEndian.AppendUint64(nil, n)[:numberOf(c.v.Type).bits/8])
		}
	}
	if b != "" && r.once(10) {
		return b[:r.below(len(b))]
	}
	if r.once(5) {
		b += "behind"[:1+r.below(6)]
	}
	return b
}
