package types

import (
	"math/big"
	"slices"
	"strings"
	"testing"

	"tramway/api"
)

// P7.1 to P7.4: a Type that is none is ErrArg everywhere, whatever else is wrong; Plain leaves it as it is.
func TestNoType(t *testing.T) {
	long := strings.Repeat("a", most+1)
	for _, typ := range noTypes {
		for _, v := range []api.Value{{}, {N: 1}, {N: 1<<64 - 1, B: "a"}, {B: "\n"}, {N: 5, B: long}} {
			v.Type = typ
			wantCheck(t, v, api.ErrArg)
			wantEncode(t, v, "", api.ErrArg)
			wantPrint(t, v, "", api.ErrArg)
			wantOrder(t, v, v, 0, api.ErrArg)
			if p := Plain(v); p != v {
				t.Errorf("Plain(%d, %d, %q): %v", v.Type, v.N, short(v.B), p)
			}
		}
		for _, b := range []string{"", "\x01", "ab", "12345678", long} {
			wantDecode(t, typ, b, api.Value{}, api.ErrArg)
			wantParse(t, typ, b, api.Value{}, api.ErrArg)
		}
		wantParse(t, typ, strings.Repeat("1", 2*most+3), api.Value{}, api.ErrArg)
	}
}

// P7.1: of each number its least and its greatest can be, and one beyond each can't; B plays no part, however long.
func TestCheckEnds(t *testing.T) {
	one := big.NewInt(1)
	long := strings.Repeat("\x00", most+1)
	for _, x := range numbers {
		least, greatest := bigOf(x.least), bigOf(x.greatest)
		for _, b := range []string{"", "a", "\n", long} {
			for _, n := range []*big.Int{least, greatest, new(big.Int)} {
				v := x.of(n)
				v.B = b
				wantCheck(t, v, api.OK)
			}
			if x.size == 8 {
				continue // 64 bits have nothing beyond
			}
			for _, n := range []*big.Int{new(big.Int).Sub(least, one), new(big.Int).Add(greatest, one)} {
				v := x.of(n)
				v.B = b
				wantCheck(t, v, api.ErrArg)
			}
		}
	}
}

// P7.1: N is held against the type's range over all of its 64 bits.
func TestCheckBits(t *testing.T) {
	for _, x := range numbers {
		for _, n := range edges() {
			want := api.ErrArg
			if x.has(x.meaning(n)) {
				want = api.OK
			}
			wantCheck(t, api.Value{Type: x.typ, N: n}, want)
		}
	}
}

// P7.1: a signed number below 0 has its sign in 64 bits, not in its own width.
func TestCheckSign(t *testing.T) {
	for _, v := range []api.Value{
		{Type: api.Int8, N: 0xff}, {Type: api.Int8, N: 0x80}, {Type: api.Int8, N: 0xffff}, {Type: api.Int8, N: 0xffffffff},
		{Type: api.Int16, N: 0xfffe}, {Type: api.Int16, N: 0x8000}, {Type: api.Int16, N: 0xffffffff},
		{Type: api.Int32, N: 0xffffffff}, {Type: api.Int32, N: 0x80000000}, {Type: api.Int32, N: 1 << 63},
		{Type: api.Uint8, N: 1<<64 - 1}, {Type: api.Uint32, N: 1<<64 - 1}, {Type: api.Bool, N: 2}, {Type: api.Bool, N: 256}, {Type: api.Bool, N: 1<<64 - 1},
	} {
		wantCheck(t, v, api.ErrArg)
	}
	for _, typ := range []int{api.Int8, api.Int16, api.Int32, api.Int64} {
		wantCheck(t, api.Value{Type: typ, N: 1<<64 - 1}, api.OK)
		wantCheck(t, api.Value{Type: typ, N: 1<<64 - 128}, api.OK)
	}
	wantCheck(t, api.Value{Type: api.Bool, N: 0}, api.OK)
	wantCheck(t, api.Value{Type: api.Bool, N: 1}, api.OK)
}

// P7.1: Text has bytes from 32 to 126 alone, wherever they stand; Octets and Domain have any.
func TestCheckBytes(t *testing.T) {
	for c := range 256 {
		one := string([]byte{byte(c)})
		for _, b := range []string{one, one + "ab", "a" + one + "b", "ab" + one} {
			want := api.OK
			if c < 32 || c > 126 {
				want = api.ErrArg
			}
			wantCheck(t, api.Value{Type: api.Text, B: b}, want)
			wantCheck(t, api.Value{Type: api.Octets, B: b}, api.OK)
			wantCheck(t, api.Value{Type: api.Domain, B: b, N: uint64(c)}, api.OK)
		}
	}
	for _, b := range []string{"\x1f", "\x7f", "é", "a\u00a0", "\xc3"} {
		wantCheck(t, api.Value{Type: api.Text, B: b}, api.ErrArg)
	}
	wantCheck(t, api.Value{Type: api.Text, B: " ~\"'"}, api.OK)
}

// P7.1: 65536 bytes are allowed, one more is ErrLong, ahead of bytes that can't be.
func TestCheckLong(t *testing.T) {
	for _, typ := range others {
		for _, n := range []uint64{0, 1, 1<<64 - 1} {
			wantCheck(t, api.Value{Type: typ, N: n}, api.OK)
			wantCheck(t, api.Value{Type: typ, N: n, B: strings.Repeat("a", most)}, api.OK)
			wantCheck(t, api.Value{Type: typ, N: n, B: strings.Repeat("a", most+1)}, api.ErrLong)
			wantCheck(t, api.Value{Type: typ, N: n, B: strings.Repeat("\n", most+1)}, api.ErrLong)
			wantCheck(t, api.Value{Type: typ, N: n, B: "\n" + strings.Repeat("a", 2*most)}, api.ErrLong)
		}
	}
	wantCheck(t, api.Value{Type: api.Text, B: strings.Repeat("a", most-1) + "\x7f"}, api.ErrArg)
	wantCheck(t, api.Value{Type: api.Text, B: strings.Repeat("a", most-1) + "~"}, api.OK)
}

// P7.1: Plain takes away what plays no part, of values that can't be, too, and nothing else.
func TestPlain(t *testing.T) {
	for _, typ := range allTypes() {
		for _, n := range []uint64{0, 1, 2, 300, 1 << 63, 1<<64 - 1} {
			for _, b := range []string{"", "a", "\n\x00", strings.Repeat("b", most+1)} {
				v := api.Value{Type: typ, N: n, B: b}
				want := api.Value{Type: typ, N: n}
				if slices.Contains(others, typ) {
					want = api.Value{Type: typ, B: b}
				}
				p := Plain(v)
				if p != want {
					t.Fatalf("Plain(%d, %d, %q): %d, %d, %q", typ, n, short(b), p.Type, p.N, short(p.B))
				}
				if Plain(p) != p || Check(p) != Check(v) {
					t.Fatalf("Plain(%d, %d, %q) is another value", typ, n, short(b))
				}
			}
		}
	}
}

// P7.1: how many bytes numbers have; all others have no size.
func TestSize(t *testing.T) {
	sizes := map[int]int{}
	for _, x := range numbers {
		sizes[x.typ] = x.size
	}
	all := slices.Concat(noTypes, others)
	for typ := -300; typ <= 300; typ++ {
		all = append(all, typ)
	}
	for _, typ := range all {
		want, wanted := sizes[typ]
		if n, is := Size(typ); n != want || is != wanted {
			t.Errorf("Size(%d): %d %v, want %d %v", typ, n, is, want, wanted)
		}
	}
}
