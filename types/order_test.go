package types

import (
	"bytes"
	"math/big"
	"slices"
	"strings"
	"testing"

	"tramway/api"
)

// P7.3: numbers by their numbers, signed ones with their sign, all edges against each other.
func TestOrderNumbers(t *testing.T) {
	for _, x := range numbers {
		var l []uint64
		for _, n := range edges() {
			if x.has(x.meaning(n)) {
				l = append(l, n)
			}
		}
		for _, a := range l {
			for _, b := range l {
				va, vb := api.Value{Type: x.typ, N: a}, api.Value{Type: x.typ, N: b}
				wantOrder(t, va, vb, x.meaning(a).Cmp(x.meaning(b)), api.OK)
			}
		}
	}
}

// P7.3: by hand, on both sides of 0, and what plays no part and is not zero.
func TestOrderByHand(t *testing.T) {
	for _, x := range []struct {
		typ  int
		a, b uint64
		want int
	}{
		{api.Int8, 1<<64 - 1, 1, -1}, {api.Int8, 1<<64 - 1, 0, -1}, {api.Int8, 127, 1<<64 - 128, 1}, {api.Int8, 1<<64 - 2, 1<<64 - 1, -1},
		{api.Int64, 1 << 63, 1<<63 - 1, -1}, {api.Int64, 0, 1 << 63, 1}, {api.Int64, 1 << 63, 1 << 63, 0},
		{api.Uint64, 1 << 63, 1<<63 - 1, 1}, {api.Uint64, 1<<64 - 1, 0, 1}, {api.Uint64, 0, 1<<64 - 1, -1},
		{api.Bool, 0, 1, -1}, {api.Bool, 1, 1, 0}, {api.Uint8, 9, 10, -1}, {api.Uint16, 256, 255, 1},
	} {
		a, b := api.Value{Type: x.typ, N: x.a}, api.Value{Type: x.typ, N: x.b}
		for _, b := range []api.Value{b, dirty(b)} {
			wantOrder(t, a, b, x.want, api.OK)
			wantOrder(t, b, a, -x.want, api.OK)
		}
	}
	for _, typ := range others {
		for _, x := range []struct {
			a, b string
			want int
		}{{"", "", 0}, {"", " ", -1}, {"a", "ab", -1}, {"ab", "abc", -1}, {"b", "ab", 1}, {"B", "a", -1}, {"ab", "ab", 0}, {"az", "b", -1}, {"~", "    ", 1}} {
			a, b := api.Value{Type: typ, B: x.a}, api.Value{Type: typ, B: x.b}
			for _, b := range []api.Value{b, dirty(b)} {
				wantOrder(t, a, b, x.want, api.OK)
				wantOrder(t, b, a, -x.want, api.OK)
			}
		}
	}
	wantOrder(t, api.Value{Type: api.Octets, B: "\x7f"}, api.Value{Type: api.Octets, B: "\x80"}, -1, api.OK)
	wantOrder(t, api.Value{Type: api.Domain, B: "\xff"}, api.Value{Type: api.Domain, B: "\x00\xff"}, 1, api.OK)
	wantOrder(t, api.Value{Type: api.Domain, B: "a"}, api.Value{Type: api.Domain, B: "a\x00"}, -1, api.OK)
}

// P7.3: values of up to 65536 bytes, which differ in the last one, or in how many they have.
func TestOrderLong(t *testing.T) {
	for _, typ := range others {
		row := strings.Repeat("a", most-1)
		a, b, c := api.Value{Type: typ, B: row}, api.Value{Type: typ, B: row + "a"}, api.Value{Type: typ, B: row + "b"}
		wantOrder(t, a, b, -1, api.OK)
		wantOrder(t, c, b, 1, api.OK)
		wantOrder(t, b, b, 0, api.OK)
		wantOrder(t, b, api.Value{Type: typ, B: row + "ab"}, 0, api.ErrLong)
	}
}

// P7.3: the first one's error ahead of the second one's, both ahead of two types.
func TestOrderRefused(t *testing.T) {
	long := api.Value{Type: api.Text, B: strings.Repeat("a", most+1)}
	none := api.Value{Type: 8}
	for _, bad := range []api.Value{none, {}, {Type: api.Text, B: "\n"}, {Type: api.Uint8, N: 256}, {Type: api.Int8, N: 128}, {Type: api.Bool, N: 2}} {
		wantOrder(t, bad, long, 0, api.ErrArg)
		wantOrder(t, long, bad, 0, api.ErrLong)
		wantOrder(t, bad, bad, 0, api.ErrArg)
	}
	for _, typ := range allTypes() {
		v := api.Value{Type: typ}
		wantOrder(t, v, long, 0, api.ErrLong)
		wantOrder(t, long, v, 0, api.ErrLong)
		wantOrder(t, v, none, 0, api.ErrArg)
		wantOrder(t, none, v, 0, api.ErrArg)
		for _, other := range allTypes() {
			want := api.ErrArg
			if other == typ {
				want = api.OK
			}
			wantOrder(t, v, api.Value{Type: other}, 0, want)
		}
	}
}

// told is the order of two values that can be, of one type, written otherwise: by numbers of any length, or by bytes.
func told(a, b api.Value) int {
	if slices.Contains(others, a.Type) {
		return bytes.Compare([]byte(a.B), []byte(b.B))
	}
	x := numbers[slices.IndexFunc(numbers, func(x number) bool { return x.typ == a.Type })]
	return x.meaning(a.N).Cmp(x.meaning(b.N))
}

// P7.6: turned about it is the other way about, and of three it goes on; equal are those that are one, Plain.
func TestOrderOfThree(t *testing.T) {
	d := dice(11)
	for _, typ := range allTypes() {
		for range 20000 {
			a, b, c := d.value(typ), d.value(typ), d.value(typ)
			ab, ba := told(a, b), told(b, a)
			wantOrder(t, a, b, ab, api.OK)
			wantOrder(t, b, a, -ab, api.OK)
			if ab != -ba || (ab == 0) != (a == b) {
				t.Fatalf("%v, %v: %d, %d", a, b, ab, ba)
			}
			wantOrder(t, a, dirty(a), 0, api.OK)
			bc, _ := Order(b, c)
			ac, _ := Order(a, c)
			if ab <= 0 && bc <= 0 && ac > 0 || ab <= 0 && bc < 0 && ac >= 0 || ab >= 0 && bc >= 0 && ac < 0 {
				t.Fatalf("%v, %v, %v: %d, %d, %d", a, b, c, ab, bc, ac)
			}
		}
	}
}

// P7.8: what a narrow type has prints, and is ordered, in a wider one of its kind as there.
func TestWider(t *testing.T) {
	chains := [][]int{
		{api.Bool, api.Uint8, api.Uint16, api.Uint32, api.Uint64},
		{api.Int8, api.Int16, api.Int32, api.Int64},
		{api.Octets, api.Domain},
	}
	d := dice(13)
	for _, chain := range chains {
		for i, narrow := range chain {
			for range 2000 {
				a, b := d.value(narrow), d.value(narrow)
				s, err := Print(a)
				want, wanted := Order(a, b)
				if err != api.OK || wanted != api.OK {
					t.Fatalf("%v, %v: %d %d", a, b, err, wanted)
				}
				for _, wide := range chain[i:] {
					a.Type, b.Type = wide, wide
					wantPrint(t, a, s, api.OK)
					wantParse(t, wide, s, a, api.OK)
					wantOrder(t, a, b, want, api.OK)
				}
			}
		}
	}
}

// P7.8: a number that a narrow type has not is refused there, and taken by the wider one, bit by bit.
func TestWiderEnds(t *testing.T) {
	for _, chain := range [][]number{numbers[1:5], numbers[5:9]} {
		for i, wide := range chain[1:] {
			narrow := chain[i]
			for _, n := range []*big.Int{new(big.Int).Add(bigOf(narrow.greatest), big.NewInt(1)), bigOf(wide.greatest), bigOf(wide.least)} {
				if narrow.has(n) {
					continue
				}
				wantPrint(t, narrow.of(n), "", api.ErrArg)
				wantParse(t, narrow.typ, n.String(), api.Value{}, api.ErrForm)
				wantPrint(t, wide.of(n), n.String(), api.OK)
				wantParse(t, wide.typ, n.String(), wide.of(n), api.OK)
			}
		}
	}
}
