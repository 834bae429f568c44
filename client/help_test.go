package client

import (
	"encoding/binary"
	"encoding/hex"
	"fmt"
	"strings"
	"testing"

	"tramway/api"
)

const most = 65536 // bytes of a value

// dice is a source of numbers that are the same at each run.
type dice uint64

func (d *dice) next() uint64 {
	*d ^= *d << 13
	*d ^= *d >> 7
	*d ^= *d << 17
	return uint64(*d)
}

// below is a number from 0 to n, less 1.
func (d *dice) below(n int) int { return int(d.next() % uint64(n)) }

func (d *dice) once(in int) bool { return d.below(in) == 0 }

func (d *dice) bytes(n int) string {
	b := make([]byte, n)
	for i := range b {
		b[i] = byte(d.next())
	}
	return string(b)
}

// placed is the three bytes of a place.
func placed(index uint16, sub uint8) string {
	return string([]byte{byte(index % 256), byte(index / 256), sub})
}

// framed is a frame of bytes, with noughts behind them.
func framed(first byte, rest ...string) string {
	s := string([]byte{first}) + strings.Join(rest, "")
	return s + strings.Repeat("\x00", 8-len(s))
}

// hexed is a frame in hexadecimal digits, the last noughts left out.
func hexed(s string) string {
	b, err := hex.DecodeString(strings.ReplaceAll(s, " ", ""))
	if err != nil {
		panic(err)
	}
	return framed(b[0], string(b[1:]))
}

func arrayOf(s string) [8]byte { return [8]byte([]byte(s)) }

func four(n uint32) string { return string(binary.LittleEndian.AppendUint32(nil, n)) }

func fourOf(s string) uint32 { return binary.LittleEndian.Uint32([]byte(s)) }

// segments are the frames of a write's segments: seven bytes each, the last one marked as such.
func segments(b string) []string {
	var l []string
	for turn := byte(0); ; turn ^= 16 {
		n := min(7, len(b))
		first := turn + byte(7-n)*2
		if n == len(b) {
			return append(l, framed(first+1, b[:n]))
		}
		l = append(l, framed(first, b[:n]))
		b = b[n:]
	}
}

// writes are all frames of a write.
func writes(at, b string) []string {
	switch len(b) {
	case 1:
		return []string{framed(0x2f, at, b)}
	case 2:
		return []string{framed(0x2b, at, b)}
	case 3:
		return []string{framed(0x27, at, b)}
	case 4:
		return []string{framed(0x23, at, b)}
	}
	return append([]string{framed(0x21, at, four(uint32(len(b))))}, segments(b)...)
}

// said is what a call that tells a frame answers.
type said struct {
	frame string
	is    bool
}

var none = said{framed(0), false}

// outcome is what Result answers.
type outcome struct {
	read string
	code uint32
	has  bool
}

func (o outcome) String() string {
	if len(o.read) > 40 {
		return fmt.Sprintf("%q.. (%d) %x %v", o.read[:40], len(o.read), o.code, o.has)
	}
	return fmt.Sprintf("%q %x %v", o.read, o.code, o.has)
}

// twin is a client written otherwise: of a write it has all frames from the first on, of all that is asked the list of what was answered, and each frame is worked out from these lists anew.
type twin struct {
	busy   bool
	at     string
	frames []string // none of a read
	list   []string
	out    outcome
}

func (w *twin) begin(at string, frames []string) { *w = twin{busy: true, at: at, frames: frames} }

func (w *twin) end(code uint32, read string) said {
	*w = twin{out: outcome{read, code, true}}
	return none
}

func (w *twin) giveUp(code uint32) said {
	a := said{framed(0x80, w.at, four(code)), true}
	w.end(code, "")
	return a
}

func (w *twin) expire() said {
	if !w.busy {
		return none
	}
	return w.giveUp(api.TimedOut)
}

func (w *twin) result() outcome {
	o := w.out
	w.out = outcome{}
	return o
}

func (w *twin) feed(a string) said {
	if !w.busy {
		return none
	}
	n := len(w.list)
	high, turn := a[0]/32, int(a[0]/16%2)
	want := []byte{3, 1}
	if w.frames == nil {
		want = []byte{2, 0}
	}
	switch {
	case high == 4:
		return w.end(fourOf(a[4:]), "")
	case n == 0 && (high != want[0] || a[1:4] != w.at), n > 0 && high != want[1]:
		return w.giveUp(api.NoCommand)
	case n > 0 && turn != (n-1)%2:
		return w.giveUp(api.NoToggle)
	}
	w.list = append(w.list, a)
	if w.frames == nil {
		return w.goesOn(n)
	}
	if n+1 == len(w.frames) {
		return w.end(api.Fine, "")
	}
	return said{w.frames[n+1], true}
}

// goesOn is what follows the nth answer of a read.
func (w *twin) goesOn(n int) said {
	first, last := w.list[0], w.list[n]
	all := ""
	for _, a := range w.list[1:] {
		all += a[1 : 8-a[0]/2%8]
	}
	sized := first[0]%2 == 1
	switch {
	case n == 0 && first[0]/2%2 == 1 && sized:
		return w.end(api.Fine, first[4:8-first[0]/4%4])
	case n == 0 && first[0]/2%2 == 1:
		return w.end(api.Fine, first[4:])
	case n == 0 && sized && fourOf(first[4:]) > most, len(all) > most:
		return w.giveUp(api.NoMemory)
	case n == 0 || last[0]%2 == 0:
		return said{framed(byte(0x60 + n%2*16)), true}
	case sized && int(fourOf(first[4:])) != len(all):
		return w.giveUp(api.BadLength)
	}
	return w.end(api.Fine, all)
}

// desk is a client and the twin that it is held against, call by call.
type desk struct {
	t    *testing.T
	c    *Client
	twin twin
}

func deskOf(t *testing.T) *desk { return &desk{t: t, c: New()} }

func (k *desk) wantBusy() {
	k.t.Helper()
	if k.c.Busy() != k.twin.busy {
		k.t.Fatalf("Busy: %v, want %v", k.c.Busy(), k.twin.busy)
	}
}

// began looks at what a Write or a Read answered, and whether it is the twin's.
func (k *desk) began(at string, frames []string, many bool, q [8]byte, err api.Errno) api.Errno {
	k.t.Helper()
	want, code := framed(0), api.OK
	switch {
	case k.twin.busy:
		code = api.ErrState
	case many:
		code = api.ErrLong
	case frames == nil:
		want = framed(0x40, at)
		k.twin.begin(at, nil)
	default:
		want = frames[0]
		k.twin.begin(at, frames)
	}
	if string(q[:]) != want || err != code {
		k.t.Fatalf("% x: % x %d, want % x %d", at, q, err, want, code)
	}
	k.wantBusy()
	return code
}

func (k *desk) write(index uint16, sub uint8, b string) api.Errno {
	k.t.Helper()
	q, err := k.c.Write(index, sub, []byte(b))
	at := placed(index, sub)
	if len(b) > most {
		return k.began(at, nil, true, q, err)
	}
	return k.began(at, writes(at, b), false, q, err)
}

func (k *desk) read(index uint16, sub uint8) api.Errno {
	k.t.Helper()
	q, err := k.c.Read(index, sub)
	return k.began(placed(index, sub), nil, false, q, err)
}

func (k *desk) feed(a string) said {
	k.t.Helper()
	n := len(k.twin.list)
	q, is := k.c.Feed(arrayOf(a))
	want := k.twin.feed(a)
	if got := (said{string(q[:]), is}); got != want {
		k.t.Fatalf("behind %d answers % x: % x %v, want % x %v", n, a, got.frame, got.is, want.frame, want.is)
	}
	k.wantBusy()
	return want
}

// feeds hands answers to both, told in hexadecimal digits, each with what is sent then; one without has none.
func (k *desk) feeds(l ...string) {
	k.t.Helper()
	for _, x := range l {
		a, want, is := strings.Cut(x, ":")
		got := k.feed(hexed(a))
		if is != got.is || is && got.frame != hexed(want) {
			k.t.Fatalf("%s: % x %v", x, got.frame, got.is)
		}
	}
}

func (k *desk) expire() said {
	k.t.Helper()
	q, is := k.c.Expire()
	want := k.twin.expire()
	if got := (said{string(q[:]), is}); got != want {
		k.t.Fatalf("Expire: % x %v, want % x %v", got.frame, got.is, want.frame, want.is)
	}
	k.wantBusy()
	return want
}

func (k *desk) result() outcome {
	k.t.Helper()
	b, code, has := k.c.Result()
	want := k.twin.result()
	if got := (outcome{string(b), code, has}); got != want {
		k.t.Fatalf("Result: %v, want %v", got, want)
	}
	k.wantBusy()
	return want
}

// wantResult looks whether both have just that one, once.
func (k *desk) wantResult(code uint32, read string) {
	k.t.Helper()
	if got := k.result(); got != (outcome{read, code, true}) {
		k.t.Fatalf("Result: %v, want %q %x", got, read, code)
	}
	if got := k.result(); got != (outcome{}) {
		k.t.Fatalf("Result, again: %v", got)
	}
}

// Where a client may be: what was asked, and the answers that came.
var states = []struct {
	name    string
	begin   func(k *desk)
	answers []string
	busy    bool
	high    byte // of the answer that is waited for: its high bits
}{
	{"new", func(*desk) {}, nil, false, 0},
	{"write at once", func(k *desk) { k.write(0x1234, 0x56, "ab") }, nil, true, 3},
	{"write in segments", func(k *desk) { k.write(0x1234, 0x56, "the bytes of a write") }, nil, true, 3},
	{"first segment", func(k *desk) { k.write(0x1234, 0x56, "the bytes of a write") }, []string{"60 34 12 56"}, true, 1},
	{"second segment", func(k *desk) { k.write(0x1234, 0x56, "the bytes of a write") }, []string{"60 34 12 56", "20"}, true, 1},
	{"last segment", func(k *desk) { k.write(0x1234, 0x56, "the bytes of a write") }, []string{"60 34 12 56", "20", "30"}, true, 1},
	{"only segment", func(k *desk) { k.write(0x1234, 0x56, "") }, []string{"60 34 12 56"}, true, 1},
	{"written", func(k *desk) { k.write(0x1234, 0x56, "ab") }, []string{"60 34 12 56"}, false, 0},
	{"refused", func(k *desk) { k.write(0x1234, 0x56, "ab") }, []string{"80 34 12 56 01"}, false, 0},
	{"read", func(k *desk) { k.read(0x1234, 0x56) }, nil, true, 2},
	{"asked for the first", func(k *desk) { k.read(0x1234, 0x56) }, []string{"41 34 12 56 09"}, true, 0},
	{"asked for the second", func(k *desk) { k.read(0x1234, 0x56) }, []string{"41 34 12 56 09", "00 31 32 33 34 35 36 37"}, true, 0},
	{"asked for the third", func(k *desk) { k.read(0x1234, 0x56) }, []string{"40 34 12 56 00", "00 31 32 33 34 35 36 37", "10 31 32 33 34 35 36 37"}, true, 0},
	{"told", func(k *desk) { k.read(0x1234, 0x56) }, []string{"4b 34 12 56 01 02"}, false, 0},
	{"told in segments", func(k *desk) { k.read(0x1234, 0x56) }, []string{"41 34 12 56 02", "0b 31 32"}, false, 0},
	{"given up", func(k *desk) { k.read(0x1234, 0x56) }, []string{"60 34 12 56"}, false, 0},
}

// inState is a desk whose client is in the ith of states.
func inState(t *testing.T, i int) *desk {
	t.Helper()
	k := deskOf(t)
	states[i].begin(k)
	for _, a := range states[i].answers {
		k.feed(hexed(a))
	}
	if k.c.Busy() != states[i].busy {
		t.Fatalf("%s: Busy %v", states[i].name, k.c.Busy())
	}
	return k
}
