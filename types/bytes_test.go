package types

import (
	"bytes"
	"strings"
	"testing"

	"tramway/api"
)

// The chapter's first example, and bytes written out by hand: the lowest first.
func TestEncodeByHand(t *testing.T) {
	for _, x := range []struct {
		typ int
		n   uint64
		b   string
	}{
		{api.Int16, 1<<64 - 2, "\xfe\xff"},
		{api.Bool, 0, "\x00"}, {api.Bool, 1, "\x01"},
		{api.Int8, 127, "\x7f"}, {api.Int8, 1<<64 - 128, "\x80"},
		{api.Int32, 1<<64 - 258, "\xfe\xfe\xff\xff"},
		{api.Int64, 1 << 63, "\x00\x00\x00\x00\x00\x00\x00\x80"},
		{api.Uint8, 255, "\xff"},
		{api.Uint16, 0x1234, "\x34\x12"},
		{api.Uint32, 0x12345678, "\x78\x56\x34\x12"},
		{api.Uint64, 0x0123456789abcdef, "\xef\xcd\xab\x89\x67\x45\x23\x01"},
	} {
		v := api.Value{Type: x.typ, N: x.n}
		wantEncode(t, v, x.b, api.OK)
		wantEncode(t, dirty(v), x.b, api.OK)
		wantDecode(t, x.typ, x.b, v, api.OK)
	}
	for _, typ := range others {
		for _, b := range []string{"", " ", "a\"b", "~~~"} {
			v := api.Value{Type: typ, B: b}
			wantEncode(t, v, b, api.OK)
			wantEncode(t, dirty(v), b, api.OK)
			wantDecode(t, typ, b, v, api.OK)
		}
	}
}

// P7.2, P7.5, P7.7: numbers at all edges have as many bytes as their type, come back, and are refused where they can't be.
func TestEncodeNumbers(t *testing.T) {
	for _, x := range numbers {
		for _, n := range edges() {
			v := api.Value{Type: x.typ, N: n}
			if !x.has(x.meaning(n)) {
				wantEncode(t, v, "", api.ErrArg)
				wantEncode(t, dirty(v), "", api.ErrArg)
				continue
			}
			wantEncode(t, v, string(x.bytes(x.meaning(n))), api.OK)
			wantBack(t, v)
			wantBack(t, dirty(v))
		}
	}
}

// P7.2, P7.7: bytes of Text, Octets and Domain go as they are, up to 65536.
func TestEncodeLong(t *testing.T) {
	for _, typ := range others {
		for _, n := range []int{0, 1, 2, 255, most - 1, most} {
			b := strings.Repeat("x", n)
			v := api.Value{Type: typ, B: b}
			wantEncode(t, v, b, api.OK)
			wantBack(t, v)
		}
		wantEncode(t, api.Value{Type: typ, B: strings.Repeat("x", most+1)}, "", api.ErrLong)
		wantEncode(t, api.Value{Type: typ, B: strings.Repeat("\n", most+1)}, "", api.ErrLong)
	}
	wantEncode(t, api.Value{Type: api.Text, B: "a\x1f"}, "", api.ErrArg)
	wantEncode(t, api.Value{Type: api.Text, B: "\x7fa"}, "", api.ErrArg)
	wantEncode(t, api.Value{Type: api.Octets, B: "\x00\x1f\x7f\xff"}, "\x00\x1f\x7f\xff", api.OK)
}

// P7.2: fewer bytes than a number has are ErrShort, more are ErrLong, whatever they are.
func TestDecodeLengths(t *testing.T) {
	for _, x := range numbers {
		for n := range 20 {
			for _, fill := range []byte{0, 1, 2, 0xff} {
				b := string(bytes.Repeat([]byte{fill}, n))
				switch {
				case n < x.size:
					wantDecode(t, x.typ, b, api.Value{}, api.ErrShort)
				case n > x.size:
					wantDecode(t, x.typ, b, api.Value{}, api.ErrLong)
				case x.typ == api.Bool && fill > 1:
					wantDecode(t, x.typ, b, api.Value{}, api.ErrForm)
				default:
					if _, err := Decode(x.typ, []byte(b)); err != api.OK {
						t.Fatalf("Decode(%d, %x): %d", x.typ, b, err)
					}
				}
			}
		}
		wantDecode(t, x.typ, strings.Repeat("\x00", most), api.Value{}, api.ErrLong)
		wantDecode(t, x.typ, strings.Repeat("\x00", most+1), api.Value{}, api.ErrLong)
		if v, err := Decode(x.typ, nil); v != (api.Value{}) || err != api.ErrShort {
			t.Errorf("Decode(%d, nil): %v %d", x.typ, v, err)
		}
	}
}

// P7.2: more than 65536 bytes are ErrLong, ahead of bytes that a Text can't have.
func TestDecodeLong(t *testing.T) {
	for _, typ := range others {
		fine := strings.Repeat("a", most)
		wantDecode(t, typ, fine, api.Value{Type: typ, B: fine}, api.OK)
		wantDecode(t, typ, fine+"a", api.Value{}, api.ErrLong)
		wantDecode(t, typ, fine+"\n", api.Value{}, api.ErrLong)
		wantDecode(t, typ, "\n"+fine+fine, api.Value{}, api.ErrLong)
		if v, err := Decode(typ, nil); v != (api.Value{Type: typ}) || err != api.OK {
			t.Errorf("Decode(%d, nil): %v %d", typ, v, err)
		}
	}
	wantDecode(t, api.Text, strings.Repeat("a", most-1)+"\x1f", api.Value{}, api.ErrForm)
}

// P7.2: a Bool of another byte than 0 or 1, a Text with a byte below 32 or above 126 are ErrForm.
func TestDecodeForm(t *testing.T) {
	for c := range 256 {
		one := string([]byte{byte(c)})
		if c > 1 {
			wantDecode(t, api.Bool, one, api.Value{}, api.ErrForm)
		} else {
			wantDecode(t, api.Bool, one, api.Value{Type: api.Bool, N: uint64(c)}, api.OK)
		}
		wantDecode(t, api.Octets, one, api.Value{Type: api.Octets, B: one}, api.OK)
		wantDecode(t, api.Domain, one, api.Value{Type: api.Domain, B: one}, api.OK)
		for _, b := range []string{one, "ab" + one, one + "ab"} {
			if c < 32 || c > 126 {
				wantDecode(t, api.Text, b, api.Value{}, api.ErrForm)
			} else {
				wantDecode(t, api.Text, b, api.Value{Type: api.Text, B: b}, api.OK)
			}
		}
	}
}

// P7.5: all bytes that are taken come back, and are a value that can be, Plain.
func TestDecodeBack(t *testing.T) {
	d := dice(7)
	for _, typ := range allTypes() {
		for k := range 1 << 16 {
			b := []byte{byte(k), byte(k >> 8)}
			if size, is := Size(typ); is {
				for len(b) < size {
					b = append(b, byte(d.next()))
				}
				b = b[:size]
			}
			v, err := Decode(typ, b)
			if err != api.OK {
				continue
			}
			if v != Plain(v) || Check(v) != api.OK || v.Type != typ {
				t.Fatalf("Decode(%d, %x): %v", typ, b, v)
			}
			wantEncode(t, v, string(b), api.OK)
		}
	}
}

// What is handed in is neither changed nor kept, its spare room included, and no two answers share memory.
func TestMemory(t *testing.T) {
	for _, typ := range allTypes() {
		room := []byte("\x01bcdefghijkl")
		size, is := Size(typ)
		if !is {
			room, size = []byte("abcdefghijkl"), 4
		}
		whole := bytes.Clone(room)
		v, err := Decode(typ, room[:size])
		if err != api.OK || !bytes.Equal(room, whole) {
			t.Fatalf("Decode(%d): %d, and it left %x", typ, err, room)
		}
		was, _ := Encode(v)
		clear(room)
		wantEncode(t, v, string(whole[:size]), api.OK)
		again, _ := Encode(v)
		for i := range again[:cap(again)] {
			again[:cap(again)][i] = 0xee
		}
		if !bytes.Equal(was, whole[:size]) {
			t.Errorf("Encode of type %d answers memory that another answer has: %x", typ, was)
		}
		wantEncode(t, v, string(whole[:size]), api.OK)
	}
}
