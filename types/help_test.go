package types

import (
	"encoding/hex"
	"math"
	"math/big"
	"regexp"
	"slices"
	"strings"
	"testing"

	"tramway/api"
)

// most is how many bytes a value may have.
const most = 65536

// number is a type of numbers, told by hand: how many bytes it has, its least and its greatest.
type number struct {
	typ, size       int
	least, greatest string
}

var numbers = []number{
	{api.Bool, 1, "0", "1"},
	{api.Int8, 1, "-128", "127"},
	{api.Int16, 2, "-32768", "32767"},
	{api.Int32, 4, "-2147483648", "2147483647"},
	{api.Int64, 8, "-9223372036854775808", "9223372036854775807"},
	{api.Uint8, 1, "0", "255"},
	{api.Uint16, 2, "0", "65535"},
	{api.Uint32, 4, "0", "4294967295"},
	{api.Uint64, 8, "0", "18446744073709551615"},
}

// others are the types that are no numbers.
var others = []int{api.Text, api.Octets, api.Domain}

// noTypes are below, among and above those that are.
var noTypes = []int{
	math.MinInt, -1 << 32, -256, -27, -21, -15, -1, 0, 8, 11, 12, 13, 14, 16, 17, 18, 19, 20, 22, 23, 24, 25, 26, 28, 29, 64, 127, 255,
	256 + api.Bool, 256 + api.Text, 1<<16 + api.Uint8, 1<<32 + api.Bool, 1<<32 + api.Octets, math.MaxInt,
}

// allTypes are the twelve.
func allTypes() []int {
	l := slices.Clone(others)
	for _, x := range numbers {
		l = append(l, x.typ)
	}
	return l
}

func (x number) signed() bool { return x.least[0] == '-' }

func bigOf(s string) *big.Int {
	n, is := new(big.Int).SetString(s, 10)
	if !is {
		panic(s)
	}
	return n
}

// has tells whether a number is one of the type.
func (x number) has(n *big.Int) bool {
	return n.Cmp(bigOf(x.least)) >= 0 && n.Cmp(bigOf(x.greatest)) <= 0
}

// meaning is the number that a value's N stands for.
func (x number) meaning(n uint64) *big.Int {
	if x.signed() {
		return big.NewInt(int64(n))
	}
	return new(big.Int).SetUint64(n)
}

// of is the value of a number, which need not be one of the type: a signed one has its sign in 64 bits.
func (x number) of(n *big.Int) api.Value {
	low := new(big.Int).And(n, bigOf("18446744073709551615"))
	return api.Value{Type: x.typ, N: low.Uint64()}
}

func (x number) value(s string) api.Value { return x.of(bigOf(s)) }

// bytes are those of a number of the type, reckoned by division.
func (x number) bytes(n *big.Int) []byte {
	left := new(big.Int).Set(n)
	if left.Sign() < 0 {
		left.Add(left, new(big.Int).Lsh(big.NewInt(1), uint(8*x.size)))
	}
	b := make([]byte, x.size)
	for i := range b {
		var low big.Int
		left.DivMod(left, big.NewInt(256), &low)
		b[i] = byte(low.Uint64())
	}
	return b
}

// edges are numbers around those that have one bit alone, on both sides of 0.
func edges() []uint64 {
	l := []uint64{0, 1, 2, 3, 100, 1<<64 - 100}
	for bit := range 64 {
		n := uint64(1) << bit
		l = append(l, n-2, n-1, n, n+1, -n-1, -n, -n+1)
	}
	return l
}

// kept is the value without what plays no part, of a type that is one.
func kept(v api.Value) api.Value {
	if slices.Contains(others, v.Type) {
		return api.Value{Type: v.Type, B: v.B}
	}
	return api.Value{Type: v.Type, N: v.N}
}

// dirty is the value with something where nothing plays a part.
func dirty(v api.Value) api.Value {
	if slices.Contains(others, v.Type) {
		v.N = 1<<64 - 7
	} else {
		v.B = "\x00\xff\n"
	}
	return v
}

var (
	numeral  = regexp.MustCompile(`^(0|-?[1-9][0-9]*)$`)
	quotedBy = regexp.MustCompile(`^"([ !#-~]|"")*"$`)
	pairs    = regexp.MustCompile(`^([0-9a-f][0-9a-f])*$`)
)

// read is Parse written otherwise: by a grammar, and by numbers of any length.
func read(typ int, s string) (api.Value, api.Errno) {
	v, fine := api.Value{Type: typ}, false
	switch typ {
	case api.Text:
		if fine = quotedBy.MatchString(s); fine {
			v.B = strings.Join(strings.Split(s[1:len(s)-1], `""`), `"`)
		}
	case api.Octets, api.Domain:
		if fine = pairs.MatchString(s); fine {
			b, _ := hex.DecodeString(s)
			v.B = string(b)
		}
	default:
		i := slices.IndexFunc(numbers, func(x number) bool { return x.typ == typ })
		if i < 0 {
			return api.Value{}, api.ErrArg
		}
		if numeral.MatchString(s) && numbers[i].has(bigOf(s)) {
			v, fine = numbers[i].value(s), true
		}
	}
	switch {
	case len(s) > 2*most+2:
		return api.Value{}, api.ErrLong
	case !fine || len(v.B) > most:
		return api.Value{}, api.ErrForm
	}
	return v, api.OK
}

// dice is a source of numbers that are the same at each run.
type dice uint64

func (d *dice) next() uint64 {
	*d ^= *d << 13
	*d ^= *d >> 7
	*d ^= *d << 17
	return uint64(*d)
}

// below is a number from 0 to n, less 1.
func (d *dice) below(n int) int { return int(d.next() % uint64(n)) }

// number is a number of the type: often near its ends or near 0.
func (d *dice) number(x number) api.Value {
	for {
		n := d.next() >> d.below(64)
		switch d.below(6) {
		case 0:
			n = x.value(x.least).N + uint64(d.below(3))
		case 1:
			n = x.value(x.greatest).N - uint64(d.below(3))
		case 2:
			n = uint64(d.below(7)) - 3
		case 3:
			n = -n
		}
		if x.has(x.meaning(n)) {
			return api.Value{Type: x.typ, N: n}
		}
	}
}

// bytes are a few, of few sorts, so that many begin alike.
func (d *dice) bytes(from string) string {
	b := make([]byte, d.below(6))
	for i := range b {
		b[i] = from[d.below(len(from))]
	}
	return string(b)
}

// value is a value of a type that can be.
func (d *dice) value(typ int) api.Value {
	switch typ {
	case api.Text:
		return api.Value{Type: typ, B: d.bytes(" \"a~Z0")}
	case api.Octets, api.Domain:
		return api.Value{Type: typ, B: d.bytes("\x00\x01\n\x7f\x80\xffa")}
	}
	return d.number(numbers[slices.IndexFunc(numbers, func(x number) bool { return x.typ == typ })])
}

// short is a text for a fault's report, cut off.
func short(s string) string { return s[:min(len(s), 40)] }

func wantCheck(t *testing.T, v api.Value, want api.Errno) {
	t.Helper()
	if err := Check(v); err != want {
		t.Fatalf("Check(%d, %d, %q of %d): %d, want %d", v.Type, v.N, short(v.B), len(v.B), err, want)
	}
}

func wantEncode(t *testing.T, v api.Value, want string, wanted api.Errno) {
	t.Helper()
	if b, err := Encode(v); string(b) != want || err != wanted {
		t.Fatalf("Encode(%d, %d, %q of %d): %x of %d, %d, want %x of %d, %d", v.Type, v.N, short(v.B), len(v.B), short(string(b)), len(b), err, short(want), len(want), wanted)
	}
}

func wantDecode(t *testing.T, typ int, b string, want api.Value, wanted api.Errno) {
	t.Helper()
	if v, err := Decode(typ, []byte(b)); v != want || err != wanted {
		t.Fatalf("Decode(%d, %x of %d): %d, %d, %q of %d, %d, want %d, %d", typ, short(b), len(b), v.Type, v.N, short(v.B), len(v.B), err, want.N, wanted)
	}
}

func wantOrder(t *testing.T, a, b api.Value, want int, wanted api.Errno) {
	t.Helper()
	if n, err := Order(a, b); n != want || err != wanted {
		t.Fatalf("Order((%d, %d, %q of %d), (%d, %d, %q of %d)): %d %d, want %d %d", a.Type, a.N, short(a.B), len(a.B), b.Type, b.N, short(b.B), len(b.B), n, err, want, wanted)
	}
}

func wantPrint(t *testing.T, v api.Value, want string, wanted api.Errno) {
	t.Helper()
	if s, err := Print(v); s != want || err != wanted {
		t.Fatalf("Print(%d, %d, %q of %d): %q of %d, %d, want %q of %d, %d", v.Type, v.N, short(v.B), len(v.B), short(s), len(s), err, short(want), len(want), wanted)
	}
}

func wantParse(t *testing.T, typ int, s string, want api.Value, wanted api.Errno) {
	t.Helper()
	if v, err := Parse(typ, s); v != want || err != wanted {
		t.Fatalf("Parse(%d, %q of %d): %d, %d, %q of %d, %d, want %d, %q, %d", typ, short(s), len(s), v.Type, v.N, short(v.B), len(v.B), err, want.N, short(want.B), wanted)
	}
}

// wantBack looks whether a value that can be comes back by its bytes and by its text, Plain.
func wantBack(t *testing.T, v api.Value) {
	t.Helper()
	b, err := Encode(v)
	if err != api.OK {
		t.Fatalf("Encode(%d, %d, %q): %d", v.Type, v.N, short(v.B), err)
	}
	wantDecode(t, v.Type, string(b), kept(v), api.OK)
	s, err := Print(v)
	if err != api.OK {
		t.Fatalf("Print(%d, %d, %q): %d", v.Type, v.N, short(v.B), err)
	}
	wantParse(t, v.Type, s, kept(v), api.OK)
}
