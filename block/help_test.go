package block

import (
	"encoding/binary"
	"encoding/hex"
	"fmt"
	"slices"
	"strings"
	"testing"

	"tramway/api"
	"tramway/bits"
)

const most = 65536 // bytes of a value

// dice is a source of numbers that are the same at each run.
type dice uint64

func (d *dice) next() uint64 {
	*d ^= *d << 13
	*d ^= *d >> 7
	*d ^= *d << 17
	return uint64(*d)
}

// below is a number from 0 to n, less 1.
func (d *dice) below(n int) int { return int(d.next() % uint64(n)) }

func (d *dice) once(in int) bool { return d.below(in) == 0 }

func (d *dice) bytes(n int) string {
	b := make([]byte, n)
	for i := range b {
		b[i] = byte(d.next())
	}
	return string(b)
}

// framed is a frame of bytes, with noughts behind them.
func framed(first int, rest ...string) string {
	s := string([]byte{byte(first)}) + strings.Join(rest, "")
	return s + strings.Repeat("\x00", 8-len(s))
}

// hexed is a frame in hexadecimal digits, the last noughts left out.
func hexed(s string) string {
	b, err := hex.DecodeString(strings.ReplaceAll(s, " ", ""))
	if err != nil {
		panic(err)
	}
	return framed(int(b[0]), string(b[1:]))
}

func arrayOf(s string) [8]byte { return [8]byte([]byte(s)) }

func four(n uint32) string { return string(binary.LittleEndian.AppendUint32(nil, n)) }

func fourOf(s string) uint32 { return binary.LittleEndian.Uint32([]byte(s)) }

func sumOf(b string) string {
	return string(binary.LittleEndian.AppendUint16(nil, bits.CRC16([]byte(b))))
}

// given is the frame that gives up.
func given(code uint32) string { return framed(0x80, "\x00\x00\x00", four(code)) }

// cut is the segments of bytes.
func cut(b string) []string {
	b += strings.Repeat("\x00", (7-len(b)%7)%7)
	if b == "" {
		return []string{"\x00\x00\x00\x00\x00\x00\x00"}
	}
	var l []string
	for ; b != ""; b = b[7:] {
		l = append(l, b[:7])
	}
	return l
}

// numbered is the first block's frames of those segments that are left.
func numbered(rest []string, size int) []string {
	var l []string
	for i, s := range rest[:min(size, len(rest))] {
		n := i + 1
		if n == len(rest) {
			n += 128
		}
		l = append(l, framed(n, s))
	}
	return l
}

// ending is the frame of the end.
func ending(b string) string {
	return framed(0xc1+4*(7*len(cut(b))-len(b)), sumOf(b))
}

// sendTwin is a sender written otherwise: it has the list of all answers, and what it tells is worked out from that list anew.
type sendTwin struct {
	all  string
	size int // of the first block; 0: it has not begun
	list []string
}

// tells is what it sends behind the last answer, its code, whether it is done.
func (w *sendTwin) tells() (told []string, code uint32, done bool) {
	if w.size == 0 {
		return nil, 0, false
	}
	rest, size := cut(w.all), w.size
	told = numbered(rest, size)
	for _, a := range w.list {
		switch {
		case done:
			return nil, code, true
		case a[0]/32 == 4:
			told, code, done = nil, fourOf(a[4:]), true
			continue
		case len(rest) == 0 && a[0] == 0xa1:
			told, done = nil, true
			continue
		case len(rest) == 0 || a[0] != 0xa2:
			code = 0x05040001
		case int(a[1]) > min(size, len(rest)):
			code = 0x05040003
		case a[2] < 1 || a[2] > 127:
			code = 0x05040002
		}
		if code != 0 {
			told, done = []string{given(code)}, true
			continue
		}
		rest, size = rest[a[1]:], int(a[2])
		told = numbered(rest, size)
		if len(rest) == 0 {
			told = []string{ending(w.all)}
		}
	}
	return told, code, done
}

// sending is a sender and the twin that it is held against, call by call.
type sending struct {
	t    *testing.T
	s    *Sender
	twin sendTwin
}

func sendingOf(t *testing.T, b string) *sending {
	t.Helper()
	s, err := NewSender([]byte(b))
	if s == nil || err != api.OK {
		t.Fatalf("NewSender of %d bytes: %v %d", len(b), s, err)
	}
	k := &sending{t, s, sendTwin{all: b}}
	k.wantDone()
	return k
}

func strung(l [][8]byte) []string {
	var told []string
	for _, f := range l {
		told = append(told, string(f[:]))
	}
	return told
}

func (k *sending) wantDone() {
	k.t.Helper()
	_, code, done := k.twin.tells()
	if c, is := k.s.Done(); c != code || is != done {
		k.t.Fatalf("Done: %x %v, want %x %v", c, is, code, done)
	}
}

func (k *sending) begin(size int) api.Errno {
	k.t.Helper()
	l, err := k.s.Begin(size)
	var want []string
	code := api.OK
	switch {
	case k.twin.size != 0:
		code = api.ErrState
	case size < 1 || size > 127:
		code = api.ErrArg
	default:
		k.twin.size = size
		want, _, _ = k.twin.tells()
	}
	if err != code || !slices.Equal(strung(l), want) {
		k.t.Fatalf("Begin(%d): %x %d, want %x %d", size, l, err, want, code)
	}
	k.wantDone()
	return code
}

func (k *sending) feed(a string) []string {
	k.t.Helper()
	got := strung(k.s.Feed(arrayOf(a)))
	if k.twin.size != 0 {
		k.twin.list = append(k.twin.list, a)
	}
	want, _, _ := k.twin.tells()
	if !slices.Equal(got, want) {
		k.t.Fatalf("the %dth answer % x: % x, want % x", len(k.twin.list), a, got, want)
	}
	k.wantDone()
	return want
}

// feeds hands answers to both, told in hexadecimal digits, each with the frames that are sent then.
func (k *sending) feeds(l ...string) {
	k.t.Helper()
	for _, x := range l {
		a, rest, _ := strings.Cut(x, ":")
		var want []string
		for _, f := range strings.FieldsFunc(rest, func(r rune) bool { return r == ',' }) {
			want = append(want, hexed(f))
		}
		if got := k.feed(hexed(a)); !slices.Equal(got, want) {
			k.t.Fatalf("%s: % x", x, got)
		}
	}
}

func (k *sending) wantCode(code uint32) {
	k.t.Helper()
	if c, done := k.s.Done(); c != code || !done {
		k.t.Fatalf("Done: %x %v, want %x", c, done, code)
	}
}

// said is what a receiver answers.
type said struct {
	frame string
	is    bool
}

var none = said{framed(0), false}

// outcome is what a receiver's Done answers.
type outcome struct {
	read string
	code uint32
	done bool
}

func (o outcome) String() string {
	if len(o.read) > 40 {
		return fmt.Sprintf("%q.. (%d) %x %v", o.read[:40], len(o.read), o.code, o.done)
	}
	return fmt.Sprintf("%q %x %v", o.read, o.code, o.done)
}

// takeTwin is a receiver written otherwise: it has the list of all that came, and what it answers is worked out from that list anew.
type takeTwin struct {
	size int
	list []string // an empty one is an Ask
}

func (w *takeTwin) answers() (a said, out outcome) {
	var taken []string
	from, last := 0, "" // where the block began; the answer to the last one of all
	for _, f := range w.list {
		a = none
		n := len(taken) - from
		told := said{framed(0xa2, string([]byte{byte(n), byte(w.size)})), true}
		switch {
		case out.done:
		case f == "" && last == "":
			a, from = told, len(taken)
		case f == "":
			a = said{last, true}
		case last == "" && int(f[0])%128 != n+1:
		case last == "" && 7*len(taken)+7 > most+7:
			a, out = said{given(0x05040005), true}, outcome{"", 0x05040005, true}
		case last == "":
			taken = append(taken, f[1:])
			told.frame = framed(0xa2, string([]byte{byte(n + 1), byte(w.size)}))
			if f[0] > 127 {
				a, last = told, told.frame
			} else if n+1 == w.size {
				a, from = told, len(taken)
			}
		case f[0]/32 == 4:
			out = outcome{"", fourOf(f[4:]), true}
		case f[0]/32 == 6 && f[0]%2 == 1:
			all := strings.Join(taken, "")
			all = all[:len(all)-int(f[0]/4%8)]
			a, out = said{framed(0xa1), true}, outcome{all, 0, true}
			if len(all) > most || sumOf(all) != f[1:3] {
				a, out = said{given(0x05040004), true}, outcome{"", 0x05040004, true}
			}
		}
	}
	return a, out
}

// taking is a receiver and the twin that it is held against, call by call.
type taking struct {
	t    *testing.T
	r    *Receiver
	twin takeTwin
}

func takingOf(t *testing.T, size int) *taking {
	t.Helper()
	r, err := NewReceiver(size)
	if r == nil || err != api.OK {
		t.Fatalf("NewReceiver(%d): %v %d", size, r, err)
	}
	k := &taking{t, r, takeTwin{size: size}}
	k.want("new", said{}, said{}, outcome{})
	return k
}

func (k *taking) want(what string, got, want said, out outcome) {
	k.t.Helper()
	if got != want {
		k.t.Fatalf("behind %d, % x: % x %v, want % x %v", len(k.twin.list)-1, what, got.frame, got.is, want.frame, want.is)
	}
	for range 2 {
		b, code, done := k.r.Done()
		if o := (outcome{string(b), code, done}); o != out {
			k.t.Fatalf("behind %d, % x: Done: %v, want %v", len(k.twin.list)-1, what, o, out)
		}
	}
}

func (k *taking) feed(f string) said {
	k.t.Helper()
	a, is := k.r.Feed(arrayOf(f))
	k.twin.list = append(k.twin.list, f)
	want, out := k.twin.answers()
	k.want(f, said{string(a[:]), is}, want, out)
	return want
}

func (k *taking) ask() said {
	k.t.Helper()
	a, is := k.r.Ask()
	k.twin.list = append(k.twin.list, "")
	want, out := k.twin.answers()
	k.want("", said{string(a[:]), is}, want, out)
	return want
}

// feeds hands frames to both, told in hexadecimal digits, each with its answer; one without has none; ? is an Ask.
func (k *taking) feeds(l ...string) {
	k.t.Helper()
	for _, x := range l {
		f, want, is := strings.Cut(x, ":")
		var got said
		if f == "?" {
			got = k.ask()
		} else {
			got = k.feed(hexed(f))
		}
		if is != got.is || is && got.frame != hexed(want) {
			k.t.Fatalf("%s: % x %v", x, got.frame, got.is)
		}
	}
}

func (k *taking) wantOutcome(read string, code uint32) {
	k.t.Helper()
	b, c, done := k.r.Done()
	if got := (outcome{string(b), c, done}); got != (outcome{read, code, true}) {
		k.t.Fatalf("Done: %v, want %q %x", got, read, code)
	}
}

// scribble writes over a list and its spare room.
func scribble[T any](l []T, with T) {
	l = l[:cap(l)]
	for i := range l {
		l[i] = with
	}
}
