package client

import (
	"slices"
	"strings"
	"testing"

	"tramway/api"
	"tramway/od"
	"tramway/sdo"
)

// sizes of the numbers, told by hand; the other types have none.
var sizes = map[int]int{
	api.Bool: 1, api.Uint8: 1, api.Uint16: 2, api.Uint32: 4, api.Uint64: 8,
	api.Int8: 1, api.Int16: 2, api.Int32: 4, api.Int64: 8,
	api.Text: 0, api.Octets: 0, api.Domain: 0,
}

// shelf is entries of all types, the sub-index the type, and of all accesses, the index 2000 (hexadecimal) and the access; one with limits at 2100, 1, and one with many bytes at 3000, 0.
func shelf() []api.Entry {
	l := []api.Entry{many("0123456789"), {Index: 0x2100, Sub: 1, Access: api.ReadWrite, Limited: true}}
	l[1].Min, l[1].Max, l[1].Default = api.Value{Type: api.Uint8, N: 2}, api.Value{Type: api.Uint8, N: 5}, api.Value{Type: api.Uint8, N: 3}
	for _, access := range []int{api.ReadOnly, api.WriteOnly, api.ReadWrite, api.Const} {
		for kind, n := range sizes {
			e := api.Entry{Index: uint16(0x2000 + access), Sub: uint8(kind), Access: access, Default: api.Value{Type: kind, N: 1}}
			if n == 0 {
				e.Default = api.Value{Type: kind, B: "as at first"[:access*3]}
			}
			l = append(l, e)
		}
	}
	return l
}

func many(b string) api.Entry {
	return api.Entry{Index: 0x3000, Access: api.ReadWrite, Default: api.Value{Type: api.Domain, B: b}}
}

func dictOf(t *testing.T, l []api.Entry) *od.Dict {
	t.Helper()
	d, err := od.New(l)
	if err != api.OK {
		t.Fatalf("od.New: %d", err)
	}
	return d
}

// line is a client and a server.
type line struct {
	t     *testing.T
	dict  *od.Dict
	serve *sdo.Server
	c     *Client
}

func lineOf(t *testing.T, l ...api.Entry) *line {
	t.Helper()
	d := dictOf(t, l)
	s, err := sdo.New(d)
	if err != api.OK {
		t.Fatalf("sdo.New: %d", err)
	}
	return &line{t, d, s, New()}
}

// talks lets all frames through, the first one on: what comes of it, and how many the client sent.
func (w *line) talks(q [8]byte, err api.Errno) (outcome, int) {
	w.t.Helper()
	if err != api.OK {
		w.t.Fatalf("not asked: %d", err)
	}
	n := 1
	for ; w.c.Busy(); n++ {
		a, is := w.serve.Handle(q)
		if !is {
			w.t.Fatalf("% x: no answer", q)
		}
		if q, is = w.c.Feed(a); is != w.c.Busy() {
			w.t.Fatalf("% x: % x %v, while Busy is %v", a, q, is, w.c.Busy())
		}
	}
	b, code, has := w.c.Result()
	return outcome{string(b), code, has}, n - 1
}

func (w *line) write(index uint16, sub uint8, b string) (outcome, int) {
	w.t.Helper()
	return w.talks(w.c.Write(index, sub, []byte(b)))
}

func (w *line) read(index uint16, sub uint8) (outcome, int) {
	w.t.Helper()
	return w.talks(w.c.Read(index, sub))
}

// has is what the entry of many bytes has.
func (w *line) has() string {
	v, _ := w.dict.Get(0x3000, 0)
	return v.B
}

// image is all values of a dictionary.
func image(d *od.Dict) []api.Value {
	var l []api.Value
	for _, e := range d.List() {
		v, _ := d.Get(e.Index, e.Sub)
		l = append(l, v)
	}
	return l
}

// P11.4: writes of so many bytes to entries of all types and accesses, and where there is nothing: as od.Write to another dictionary of the same entries.
func TestWritesAsTheDictionary(t *testing.T) {
	d := dice(114)
	w, other := lineOf(t, shelf()...), dictOf(t, shelf())
	places := append(shelf(), api.Entry{Index: 0x2000}, api.Entry{Index: 0x2002, Sub: 255}, api.Entry{Index: 0x4000}, api.Entry{Index: 0xffff, Sub: 255})
	codes := map[uint32]int{}
	for n := range 24 {
		for _, e := range places {
			for _, b := range []string{d.bytes(n), strings.Repeat("\x01", n), strings.Repeat("a", n), strings.Repeat("\x00", n)} {
				got, frames := w.write(e.Index, e.Sub, b)
				code := other.Write(e.Index, e.Sub, []byte(b))
				if got != (outcome{"", code, true}) || frames > n/7+4 {
					t.Fatalf("%x, %d: %d bytes: %v in %d frames, want %x", e.Index, e.Sub, n, got, frames, code)
				}
				codes[code]++
			}
			if !slices.Equal(image(w.dict), image(other)) {
				t.Fatalf("%x, %d: %d bytes: other values", e.Index, e.Sub, n)
			}
		}
	}
	for _, code := range []uint32{api.Fine, api.NoObject, api.NoSub, api.NoWrite, api.TooShort, api.TooLong, api.BadValue, api.TooHigh, api.TooLow} {
		if codes[code] == 0 {
			t.Errorf("%x: never", code)
		}
	}
}

// P11.4: reads likewise: as od.Read.
func TestReadsAsTheDictionary(t *testing.T) {
	w := lineOf(t, shelf()...)
	before := image(w.dict)
	codes := map[uint32]int{}
	for _, e := range append(shelf(), api.Entry{Index: 0x2000}, api.Entry{Index: 0x2002, Sub: 255}, api.Entry{Index: 0x4000}) {
		got, frames := w.read(e.Index, e.Sub)
		b, code := w.dict.Read(e.Index, e.Sub)
		if got != (outcome{string(b), code, true}) || frames > len(b)/7+4 {
			t.Errorf("%x, %d: %v in %d frames, want %q %x", e.Index, e.Sub, got, frames, b, code)
		}
		codes[code]++
	}
	for _, code := range []uint32{api.Fine, api.NoObject, api.NoSub, api.NoRead} {
		if codes[code] == 0 {
			t.Errorf("%x: never", code)
		}
	}
	if !slices.Equal(image(w.dict), before) {
		t.Error("changed")
	}
}

// P11.4, P11.7: of each number of bytes, up to the most that there may be: written, read back, in few frames.
func TestThereAndBack(t *testing.T) {
	d := dice(117)
	w := lineOf(t, many("old"))
	counts := []int{most - 7, most - 6, most - 2, most - 1, most}
	for n := range 150 {
		counts = append(counts, n)
	}
	for _, n := range counts {
		b := d.bytes(n)
		if got, frames := w.write(0x3000, 0, b); got != (outcome{"", api.Fine, true}) || frames > n/7+4 {
			t.Fatalf("%d bytes: %v in %d frames", n, got, frames)
		}
		if w.has() != b {
			t.Fatalf("%d bytes: it has others", n)
		}
		for range 2 {
			if got, frames := w.read(0x3000, 0); got != (outcome{b, api.Fine, true}) || frames > n/7+4 {
				t.Fatalf("%d bytes: %v in %d frames", n, got, frames)
			}
		}
	}
}

// P11.7: what numbers and texts were written with is read back, too.
func TestAllTypesThereAndBack(t *testing.T) {
	w := lineOf(t, shelf()...)
	for kind, n := range sizes {
		b := strings.Repeat("\x01", n)
		if n == 0 {
			b = "a text of some bytes"
		}
		if got, _ := w.write(0x2002, uint8(kind), b); got != (outcome{"", api.Fine, true}) {
			t.Errorf("%d: %v", kind, got)
		}
		if got, _ := w.read(0x2002, uint8(kind)); got != (outcome{b, api.Fine, true}) {
			t.Errorf("%d: %v", kind, got)
		}
	}
}

// P11.6: a client that expires, wherever it is, can ask again at once, whether the server hears of it or not.
func TestAskAgain(t *testing.T) {
	const b = "bytes that are many"
	for _, heard := range []bool{false, true} {
		for _, reads := range []bool{false, true} {
			for n := range 5 {
				w := lineOf(t, many("0123456789abcdefghijklmnop"))
				q, err := w.c.Write(0x3000, 0, []byte(b))
				if reads {
					w.c.Expire()
					q, err = w.c.Read(0x3000, 0)
				}
				for range n {
					a, _ := w.serve.Handle(q)
					q, _ = w.c.Feed(a)
				}
				if w.c.Busy() == (!reads && n == 4) || err != api.OK {
					t.Fatalf("%d frames: Busy %v, %d", n, w.c.Busy(), err)
				}
				if q, is := w.c.Expire(); is && heard {
					w.serve.Handle(q)
				}
				if got, _ := w.read(0x3000, 0); got != (outcome{w.has(), api.Fine, true}) {
					t.Fatalf("%d frames: %v", n, got)
				}
				if got, _ := w.write(0x3000, 0, "other bytes"); got != (outcome{"", api.Fine, true}) || w.has() != "other bytes" {
					t.Fatalf("%d frames: %v", n, got)
				}
			}
		}
	}
}
