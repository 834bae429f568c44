package od

import (
	"testing"

	"tramway/api"
)

// step does one thing to dictionaries and to their book: all tell the same of it.
func (r *dice) step(t *testing.T, k book, all ...*Dict) {
	t.Helper()
	index, sub := r.place()
	typ := allTypes()[r.below(12)]
	if row, _ := k.at(index, sub); row != nil && !r.once(8) {
		typ = row.entry.Default.Type
	}
	raw := r.raw(typ)
	switch r.below(8) {
	case 0:
		if r.once(4) {
			k.reset()
			for _, d := range all {
				d.Reset()
			}
		}
	case 1, 2:
		v := r.value(typ)
		if r.once(4) {
			v.N = r.next() >> r.below(64)
		}
		want := k.set(index, sub, v)
		for _, d := range all {
			wantSet(t, d, index, sub, v, want)
		}
	case 3:
		b := r.list(k)
		want := k.load(b)
		for _, d := range all {
			wantLoad(t, d, b, want)
		}
	default:
		want := k.write(index, sub, raw)
		for _, d := range all {
			wantWrite(t, d, index, sub, raw, want)
		}
	}
}

// list is something to load: mostly entries that are there, in order, with fitting bytes; now and then not.
func (r *dice) list(k book) string {
	b := ""
	for _, row := range k.sorted() {
		if row.entry.Access != api.ReadWrite && !r.once(20) || r.once(3) {
			continue
		}
		raw, _ := rawOf(r.value(row.entry.Default.Type))
		if r.once(20) {
			raw = r.raw(row.entry.Default.Type)
		}
		one := savedAs(row.entry.Index, row.entry.Sub, raw)
		switch {
		case r.once(40):
			b = one + b
		case r.once(40):
			b += one + one
		default:
			b += one
		}
	}
	if b != "" && r.once(10) {
		b = b[:r.below(len(b))]
	}
	return b
}

// P8.2 to P8.5, P8.8, P8.9: long runs on dictionaries of the same entries in two orders tell, at each step, what a book tells that looks through its rows one by one; what is refused, and what is another's, changes nothing.
func TestRuns(t *testing.T) {
	r := dice(8)
	for range 300 {
		l := r.entries()
		k := bookOf(l)
		one, two := made(t, l...), made(t, r.shuffled(l)...)
		wantSame(t, one, k)
		wantSame(t, two, k)
		for range 60 {
			r.step(t, k, one, two)
			wantSame(t, one, k)
			wantSame(t, two, k)
		}
	}
}

// P8.6: whatever is written, an entry that is Limited has a value within its limits, and a Const one its Default.
func TestLimitsHold(t *testing.T) {
	r := dice(86)
	written := 0
	for range 200 {
		l := r.entries()
		d := made(t, l...)
		for range 200 {
			index, sub := r.place()
			typ := allTypes()[r.below(12)]
			if e, is := d.Entry(index, sub); is {
				typ = e.Default.Type
			}
			if d.Write(index, sub, []byte(r.raw(typ))) == api.Fine {
				written++
			}
		}
		for _, e := range l {
			v, _ := d.Get(e.Index, e.Sub)
			raw, _ := rawOf(v)
			x, _ := numberOf(e.Default.Type)
			least, _ := rawOf(e.Min)
			greatest, _ := rawOf(e.Max)
			if e.Limited && (meaning(x, raw).Cmp(meaning(x, least)) < 0 || meaning(x, raw).Cmp(meaning(x, greatest)) > 0) {
				t.Fatalf("%+v has %+v", e, v)
			}
			if e.Access == api.Const && v != clean(e.Default) {
				t.Fatalf("%+v has %+v", e, v)
			}
		}
	}
	if written < 1000 {
		t.Errorf("only %d were written", written)
	}
}

// P8.6: a Const one has its Default behind a Set and a Load, too.
func TestConst(t *testing.T) {
	for _, typ := range allTypes() {
		first := num(typ, 1)
		d := made(t, entry(1, 2, api.Const, first))
		raw, _ := rawOf(num(typ, 0))
		wantSet(t, d, 1, 2, num(typ, 0), api.ErrArg)
		wantLoad(t, d, savedAs(1, 2, raw), api.ErrNone)
		wantWrite(t, d, 1, 2, raw, api.NoWrite)
		wantGet(t, d, 1, 2, clean(first), api.OK)
	}
}

// P8.7: what one dictionary saves, another one of the same entries loads, whatever it has: the ReadWrite entries are alike then, the others as they were.
func TestKept(t *testing.T) {
	r := dice(87)
	for range 300 {
		l := r.entries()
		from, to := made(t, l...), made(t, r.shuffled(l)...)
		fromBook, toBook := bookOf(l), bookOf(l)
		for range 40 {
			r.step(t, fromBook, from)
			r.step(t, toBook, to)
		}
		wantLoad(t, to, string(from.Save()), api.OK)
		for _, e := range l {
			source := to
			want, _ := toBook.at(e.Index, e.Sub)
			if e.Access == api.ReadWrite {
				source = from
				want, _ = fromBook.at(e.Index, e.Sub)
			}
			v, _ := source.Get(e.Index, e.Sub)
			if v != valueOf(e.Default.Type, want.raw) {
				t.Fatalf("%+v has %+v", e, v)
			}
			wantGet(t, to, e.Index, e.Sub, v, api.OK)
		}
		wantSame(t, from, fromBook)
	}
}

// P8.8: a Write or a Set changes one entry alone, and that one as it was told; of two dictionaries one alone.
func TestApart(t *testing.T) {
	r := dice(88)
	for range 300 {
		l := r.entries()
		d, still := made(t, l...), made(t, l...)
		for range 30 {
			before := map[piece]api.Value{}
			for _, e := range l {
				v, _ := d.Get(e.Index, e.Sub)
				before[piece{e.Index, e.Sub, ""}] = v
			}
			index, sub := r.place()
			typ := allTypes()[r.below(12)]
			if e, is := d.Entry(index, sub); is {
				typ = e.Default.Type
			}
			v := r.value(typ)
			raw, _ := rawOf(v)
			if r.once(2) && d.Set(index, sub, v) == api.OK || d.Write(index, sub, []byte(raw)) == api.Fine {
				before[piece{index, sub, ""}] = clean(v)
			}
			for at, v := range before {
				wantGet(t, d, at.index, at.sub, v, api.OK)
			}
		}
		wantSame(t, still, bookOf(l))
	}
}

// P8.1, P8.9: in whichever order, the same entries can be a dictionary, or can't; as many as there may be are found, each.
func TestWhicheverOrder(t *testing.T) {
	r := dice(89)
	var l []api.Entry
	for i := range mostList {
		l = append(l, entry(uint16(r.next()), uint8(i), api.ReadWrite, num(api.Uint32, int64(i))))
	}
	k := bookOf(l)
	if Check(l) != api.OK {
		t.Fatal("these are not apart")
	}
	for range 3 {
		wantSame(t, made(t, r.shuffled(l)...), k)
	}
	l[r.below(mostList)] = l[r.below(mostList/2)]
	l[0] = l[mostList-1]
	for range 3 {
		wantCheck(t, api.ErrThere, r.shuffled(l)...)
	}
}
