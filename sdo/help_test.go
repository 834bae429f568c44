package sdo

import (
	"encoding/binary"
	"encoding/hex"
	"fmt"
	"slices"
	"strings"
	"testing"

	"tramway/api"
	"tramway/od"
)

const (
	most    = 65536 // bytes of a value
	nowhere = "\x00\x00\x00"
)

// dice is a source of numbers that are the same at each run.
type dice uint64

func (d *dice) next() uint64 {
	*d ^= *d << 13
	*d ^= *d >> 7
	*d ^= *d << 17
	return uint64(*d)
}

// below is a number from 0 to n, less 1.
func (d *dice) below(n int) int { return int(d.next() % uint64(n)) }

func (d *dice) once(in int) bool { return d.below(in) == 0 }

func (d *dice) bytes(n int) string {
	b := make([]byte, n)
	for i := range b {
		b[i] = byte(d.next())
	}
	return string(b)
}

// letters are bytes that a text may have.
func (d *dice) letters(n int) string {
	b := make([]byte, n)
	for i := range b {
		b[i] = byte(32 + d.below(95))
	}
	return string(b)
}

// sizes of the numbers, told by hand; a type that is below 0 here has its sign.
var sizes = map[int]int{
	api.Bool: 1, api.Uint8: 1, api.Uint16: 2, api.Uint32: 4, api.Uint64: 8,
	api.Int8: -1, api.Int16: -2, api.Int32: -4, api.Int64: -8,
}

var kinds = []int{
	api.Bool, api.Int8, api.Int16, api.Int32, api.Int64, api.Uint8, api.Uint16, api.Uint32, api.Uint64,
	api.Text, api.Octets, api.Domain,
}

// sizeOf is how many bytes a number of a type has, or 0.
func sizeOf(kind int) int { return max(sizes[kind], -sizes[kind]) }

// valueOf is the value of bytes.
func valueOf(kind int, raw string) api.Value {
	if sizes[kind] == 0 {
		return api.Value{Type: kind, B: raw}
	}
	fill := "\x00"
	if sizes[kind] < 0 && raw[len(raw)-1] >= 128 {
		fill = "\xff"
	}
	wide := raw + strings.Repeat(fill, 8-len(raw))
	return api.Value{Type: kind, N: binary.LittleEndian.Uint64([]byte(wide))}
}

// thing is an entry of a clerk and the bytes that it has.
type thing struct {
	entry api.Entry
	raw   string
}

// judge is the code of bytes for it.
func (x *thing) judge(raw string) uint32 {
	kind := x.entry.Default.Type
	v := int64(0)
	switch n := sizeOf(kind); {
	case x.entry.Access == api.ReadOnly || x.entry.Access == api.Const:
		return api.NoWrite
	case n > 0 && len(raw) < n:
		return api.TooShort
	case n > 0 && len(raw) > n || len(raw) > most:
		return api.TooLong
	case kind == api.Bool && raw[0] > 1,
		kind == api.Text && strings.ContainsFunc(raw, func(r rune) bool { return r < 32 || r > 126 }):
		return api.BadValue
	case n > 0:
		v = int64(valueOf(kind, raw).N)
	}
	switch {
	case x.entry.Limited && v > int64(x.entry.Max.N):
		return api.TooHigh
	case x.entry.Limited && v < int64(x.entry.Min.N):
		return api.TooLow
	}
	return api.Fine
}

// clerk is a server and its dictionary written otherwise: frames are texts, of what goes on all frames lie in a list, and each answer is worked out from that list anew.
type clerk struct {
	things map[string]*thing // by the three bytes of a place
	list   []string          // none, if nothing goes on
	raw    string            // of a read: what the entry had
}

func clerkOf(l []api.Entry) *clerk {
	k := &clerk{things: map[string]*thing{}}
	for _, e := range l {
		raw := e.Default.B
		if n := sizeOf(e.Default.Type); n > 0 {
			raw = string(binary.LittleEndian.AppendUint64(nil, e.Default.N)[:n])
		}
		k.things[placed(e.Index, e.Sub)] = &thing{e, raw}
	}
	return k
}

// placed is the three bytes of a place.
func placed(index uint16, sub uint8) string {
	return string([]byte{byte(index % 256), byte(index / 256), sub})
}

// framed is a frame of bytes, with noughts behind them.
func framed(first byte, rest ...string) string {
	s := string([]byte{first}) + strings.Join(rest, "")
	return s + strings.Repeat("\x00", 8-len(s))
}

func four(n uint32) string { return string(binary.LittleEndian.AppendUint32(nil, n)) }

func fourOf(s string) int { return int(binary.LittleEndian.Uint32([]byte(s))) }

func aborted(at string, code uint32) string { return framed(0x80, at, four(code)) }

// find is the thing at a place, or the code by which there is none.
func (k *clerk) find(at string) (*thing, uint32) {
	if x := k.things[at]; x != nil {
		return x, api.Fine
	}
	for other := range k.things {
		if other[:2] == at[:2] {
			return nil, api.NoSub
		}
	}
	return nil, api.NoObject
}

func (k *clerk) write(at, raw string) uint32 {
	x, code := k.find(at)
	if code == api.Fine {
		code = x.judge(raw)
	}
	if code == api.Fine {
		x.raw = raw
	}
	return code
}

func (k *clerk) doing() int {
	if len(k.list) == 0 {
		return 0
	}
	return int(k.list[0][0] / 32) // a write begins with command 1, a read with 2
}

// ends gives up what goes on.
func (k *clerk) ends(answer string) string {
	k.list = nil
	return answer
}

func (k *clerk) expire() (string, bool) {
	if k.doing() == 0 {
		return framed(0), false
	}
	return k.ends(aborted(k.list[0][1:4], api.TimedOut)), true
}

func (k *clerk) handle(q string) (string, bool) {
	switch q[0] / 32 {
	case 0, 3:
		return k.goesOn(q), true
	case 1:
		k.list = nil
		return k.writes(q), true
	case 2:
		k.list = nil
		return k.reads(q), true
	case 4:
		return k.ends(framed(0)), false
	}
	return k.ends(aborted(q[1:4], api.NoCommand)), true
}

func (k *clerk) writes(q string) string {
	at := q[1:4]
	x, code := k.find(at)
	switch q[0] % 4 {
	case 3:
		code = k.write(at, q[4:8-q[0]/4%4])
	case 2:
		n := 4
		if x != nil && sizeOf(x.entry.Default.Type)%8 > 0 {
			n = sizeOf(x.entry.Default.Type)
		}
		code = k.write(at, q[4:4+n])
	case 0, 1:
		if x != nil && x.entry.Access != api.ReadWrite && x.entry.Access != api.WriteOnly {
			code = api.NoWrite
		}
		if code == api.Fine && q[0]%2 == 1 && fourOf(q[4:]) > most {
			code = api.NoMemory
		}
		if code == api.Fine {
			k.list = []string{q}
		}
	}
	if code != api.Fine {
		return aborted(at, code)
	}
	return framed(0x60, at)
}

func (k *clerk) reads(q string) string {
	at := q[1:4]
	x, code := k.find(at)
	if code == api.Fine && x.entry.Access == api.WriteOnly {
		code = api.NoRead
	}
	if code != api.Fine {
		return aborted(at, code)
	}
	switch len(x.raw) {
	case 1:
		return framed(0x4f, at, x.raw)
	case 2:
		return framed(0x4b, at, x.raw)
	case 3:
		return framed(0x47, at, x.raw)
	case 4:
		return framed(0x43, at, x.raw)
	}
	k.list, k.raw = []string{q}, x.raw
	return framed(0x41, at, four(uint32(len(x.raw))))
}

// goesOn is the answer to a segment of a write, or to who asks for one of a read.
func (k *clerk) goesOn(q string) string {
	wanted := 1
	if q[0] >= 96 {
		wanted = 2
	}
	if k.doing() != wanted {
		return aborted(nowhere, api.NoCommand)
	}
	turn := byte((len(k.list) - 1) % 2)
	if q[0]/16%2 != turn {
		return k.ends(aborted(k.list[0][1:4], api.NoToggle))
	}
	k.list = append(k.list, q)
	if wanted == 1 {
		return k.segment(turn * 16)
	}
	rest := k.raw[7*(len(k.list)-2):]
	if len(rest) > 7 {
		return framed(turn*16, rest[:7])
	}
	return k.ends(framed(turn*16+byte(7-len(rest))*2+1, rest))
}

// segment is the answer to the last frame of the list, a segment.
func (k *clerk) segment(turn byte) string {
	first, last := k.list[0], k.list[len(k.list)-1]
	at, all := first[1:4], ""
	for _, q := range k.list[1:] {
		all += q[1 : 8-q[0]/2%8]
	}
	switch {
	case len(all) > most:
		return k.ends(aborted(at, api.NoMemory))
	case last[0]%2 == 0:
		return framed(0x20 + turn)
	case first[0]%2 == 1 && fourOf(first[4:]) != len(all):
		return k.ends(aborted(at, api.BadLength))
	}
	if code := k.write(at, all); code != api.Fine {
		return k.ends(aborted(at, code))
	}
	return k.ends(framed(0x20 + turn))
}

// desk is a server, its dictionary, and the clerk that they are held against.
type desk struct {
	t     *testing.T
	serve *Server
	dict  *od.Dict
	clerk *clerk
}

func deskOf(t *testing.T, l ...api.Entry) *desk {
	t.Helper()
	d, err := od.New(l)
	if err != api.OK {
		t.Fatalf("od.New: %d", err)
	}
	s, err := New(d)
	if s == nil || err != api.OK {
		t.Fatalf("New: %v %d", s, err)
	}
	return &desk{t, s, d, clerkOf(l)}
}

// ask hands a frame to both, and looks whether they answer the same and do the same.
func (k *desk) ask(q string) string {
	k.t.Helper()
	before := k.serve.Doing()
	a, is := k.serve.Handle([8]byte([]byte(q)))
	want, yes := k.clerk.handle(q)
	if string(a[:]) != want || is != yes {
		k.t.Fatalf("doing %d: % x: % x %v, want % x %v", before, q, a, is, want, yes)
	}
	k.wantDoing()
	return want
}

// asks hands frames to both, told in hexadecimal digits, each with its answer; one without an answer has none.
func (k *desk) asks(l ...string) {
	k.t.Helper()
	for _, x := range l {
		q, want, is := strings.Cut(x, ":")
		got := k.ask(hexed(q))
		if is && got != hexed(want) || !is && got != framed(0) {
			k.t.Fatalf("%s: % x", x, got)
		}
	}
}

// hexed is a frame in hexadecimal digits, the last noughts left out.
func hexed(s string) string {
	b, err := hex.DecodeString(strings.ReplaceAll(s, " ", ""))
	if err != nil {
		panic(err)
	}
	return framed(b[0], string(b[1:]))
}

func (k *desk) expire() {
	k.t.Helper()
	a, is := k.serve.Expire()
	if want, yes := k.clerk.expire(); string(a[:]) != want || is != yes {
		k.t.Fatalf("Expire: % x %v, want % x %v", a, is, want, yes)
	}
	k.wantDoing()
}

func (k *desk) reset() {
	k.t.Helper()
	k.serve.Reset()
	k.clerk.list = nil
	k.wantDoing()
}

// set gives an entry a value from within.
func (k *desk) set(index uint16, sub uint8, raw string) {
	k.t.Helper()
	x := k.clerk.things[placed(index, sub)]
	if err := k.dict.Set(index, sub, valueOf(x.entry.Default.Type, raw)); err != api.OK {
		k.t.Fatalf("Set: %d", err)
	}
	x.raw = raw
}

func (k *desk) wantDoing() {
	k.t.Helper()
	if got, want := k.serve.Doing(), k.clerk.doing(); got != want {
		k.t.Fatalf("Doing: %d, want %d", got, want)
	}
}

// wantHas looks whether an entry has bytes.
func (k *desk) wantHas(index uint16, sub uint8, raw string) {
	k.t.Helper()
	e, _ := k.dict.Entry(index, sub)
	if v, err := k.dict.Get(index, sub); v != valueOf(e.Default.Type, raw) || err != api.OK {
		k.t.Fatalf("%x, %d: %s, want %s", index, sub, short(v), short(valueOf(e.Default.Type, raw)))
	}
}

// wantSame looks whether all entries have what the clerk's have.
func (k *desk) wantSame() {
	k.t.Helper()
	for _, x := range k.clerk.things {
		k.wantHas(x.entry.Index, x.entry.Sub, x.raw)
	}
}

func short(v api.Value) string {
	if len(v.B) > 40 {
		return fmt.Sprintf("%d: %q.. (%d)", v.Type, v.B[:40], len(v.B))
	}
	return fmt.Sprintf("%d: %d %q", v.Type, v.N, v.B)
}

// segments are the frames of a write's segments: seven bytes each, the last one marked as such.
func segments(b string) []string {
	var l []string
	for turn := byte(0); ; turn ^= 16 {
		n := min(7, len(b))
		first := turn + byte(7-n)*2
		if n == len(b) {
			return append(l, framed(first+1, b[:n]))
		}
		l = append(l, framed(first, b[:n]))
		b = b[n:]
	}
}

// sends hands frames to the server alone, each of which must be answered well.
func (k *desk) sends(l ...string) {
	k.t.Helper()
	for i, q := range l {
		a, is := k.serve.Handle([8]byte([]byte(q)))
		if !is || a[0] == 0x80 {
			k.t.Fatalf("frame %d: % x: % x %v", i, q, a, is)
		}
	}
}

// wantAnswer hands a frame to the server alone.
func (k *desk) wantAnswer(q, want string) {
	k.t.Helper()
	if a, is := k.serve.Handle([8]byte([]byte(q))); string(a[:]) != want || !is {
		k.t.Fatalf("% x: % x %v, want % x", q, a, is, want)
	}
}

var accesses = []int{api.ReadOnly, api.WriteOnly, api.ReadWrite, api.Const}

// readWrite is the index whose entries are ReadWrite in shelf.
const readWrite = 0x2000 + api.ReadWrite

// shelf is entries of all types, the sub-index the type, and of all accesses, the index 2000 (hexadecimal) and the access; and some with limits at 2100.
func shelf() []api.Entry {
	var l []api.Entry
	for _, access := range accesses {
		for _, kind := range kinds {
			e := api.Entry{Index: uint16(0x2000 + access), Sub: uint8(kind), Access: access, Default: api.Value{Type: kind, N: 1}}
			if sizes[kind] == 0 {
				e.Default = api.Value{Type: kind, B: "as at first"}
			}
			l = append(l, e)
		}
	}
	for i, kind := range []int{api.Uint8, api.Int16, api.Uint32} {
		e := api.Entry{Index: 0x2100, Sub: uint8(i + 1), Access: api.ReadWrite, Limited: true}
		e.Min, e.Max, e.Default = api.Value{Type: kind, N: 2}, api.Value{Type: kind, N: 5}, api.Value{Type: kind, N: 3}
		l = append(l, e)
	}
	l[len(l)-2].Min.N = 1<<64 - 3
	return l
}

// domain is an entry with many bytes, at 3000, 0.
func domain(b string) api.Entry {
	return api.Entry{Index: 0x3000, Access: api.ReadWrite, Default: api.Value{Type: api.Domain, B: b}}
}

func octets(index uint16, sub uint8, access int, b string) api.Entry {
	return api.Entry{Index: index, Sub: sub, Access: access, Default: api.Value{Type: api.Octets, B: b}}
}

// places are all of a shelf, and some where nothing is: an index without that sub-index, one without any.
func places() []string {
	var l []string
	for _, e := range shelf() {
		l = append(l, placed(e.Index, e.Sub))
	}
	l = append(l, placed(0x2000, 0), placed(readWrite, 255), placed(0x2100, 4), placed(0x1fff, 5), placed(0, 0), placed(0xffff, 255), placed(0x0220, 5))
	return slices.Clip(l)
}
