package types

import (
	"encoding/hex"
	"math/big"
	"strings"
	"testing"

	"tramway/api"
)

// P7.4: numbers in decimal digits, a - ahead below 0; what can't be prints nothing.
func TestPrintNumbers(t *testing.T) {
	for _, x := range numbers {
		for _, n := range edges() {
			v := api.Value{Type: x.typ, N: n}
			if !x.has(x.meaning(n)) {
				wantPrint(t, v, "", api.ErrArg)
				continue
			}
			s := x.meaning(n).String()
			wantPrint(t, v, s, api.OK)
			wantPrint(t, dirty(v), s, api.OK)
			wantParse(t, x.typ, s, v, api.OK)
		}
		for _, s := range []string{x.least, x.greatest, "0", "1"} {
			wantPrint(t, x.value(s), s, api.OK)
			wantParse(t, x.typ, s, x.value(s), api.OK)
		}
	}
}

// The chapter's second example, and texts written out by hand.
func TestPrintByHand(t *testing.T) {
	for _, x := range []struct{ b, s string }{
		{`a"b`, `"a""b"`}, {``, `""`}, {`"`, `""""`}, {`""`, `""""""`}, {`"a`, `"""a"`}, {`a"`, `"a"""`}, {` ~`, `" ~"`}, {`\n'`, `"\n'"`}, {`00ff`, `"00ff"`},
	} {
		v := api.Value{Type: api.Text, B: x.b}
		wantPrint(t, v, x.s, api.OK)
		wantPrint(t, dirty(v), x.s, api.OK)
		wantParse(t, api.Text, x.s, v, api.OK)
	}
	for _, typ := range []int{api.Octets, api.Domain} {
		for _, x := range []struct{ b, s string }{{"", ""}, {"\x00", "00"}, {"\x00\xff", "00ff"}, {"\xab\xcd\xef\x09\x90", "abcdef0990"}, {"a\"\n", "61220a"}} {
			v := api.Value{Type: typ, B: x.b}
			wantPrint(t, v, x.s, api.OK)
			wantPrint(t, dirty(v), x.s, api.OK)
			wantParse(t, typ, x.s, v, api.OK)
		}
	}
}

// P7.4: each byte prints as it should, and what a Text can't have is refused, printed and read.
func TestPrintBytes(t *testing.T) {
	for c := range 256 {
		b := string([]byte{byte(c)})
		for _, typ := range []int{api.Octets, api.Domain} {
			wantPrint(t, api.Value{Type: typ, B: b}, hex.EncodeToString([]byte(b)), api.OK)
			wantParse(t, typ, hex.EncodeToString([]byte(b)), api.Value{Type: typ, B: b}, api.OK)
		}
		v, quoted := api.Value{Type: api.Text, B: b}, `"`+b+`"`
		switch {
		case c < 32 || c > 126:
			wantPrint(t, v, "", api.ErrArg)
			wantParse(t, api.Text, quoted, api.Value{}, api.ErrForm)
		case c == '"':
			wantPrint(t, v, `""""`, api.OK)
			wantParse(t, api.Text, quoted, api.Value{}, api.ErrForm)
		default:
			wantPrint(t, v, quoted, api.OK)
			wantParse(t, api.Text, quoted, v, api.OK)
		}
	}
}

// P7.4: values of 65536 bytes print and come back, of one more neither.
func TestPrintLong(t *testing.T) {
	for _, b := range []string{strings.Repeat("a", most), strings.Repeat(`"`, most), strings.Repeat(`a"`, most/2)} {
		v := api.Value{Type: api.Text, B: b}
		wantPrint(t, v, `"`+strings.ReplaceAll(b, `"`, `""`)+`"`, api.OK)
		wantBack(t, v)
		for _, typ := range []int{api.Octets, api.Domain} {
			v.Type = typ
			wantPrint(t, v, hex.EncodeToString([]byte(b)), api.OK)
			wantBack(t, v)
		}
		for _, typ := range others {
			wantPrint(t, api.Value{Type: typ, B: b + "a"}, "", api.ErrLong)
			wantPrint(t, api.Value{Type: typ, B: b + "\n"}, "", api.ErrLong)
		}
	}
}

// P7.4: a text of twice 65536 and 2 bytes is looked at, one more is ErrLong, whatever it says.
func TestParseLong(t *testing.T) {
	for _, typ := range allTypes() {
		for _, c := range []string{"0", "1", "a", `"`, " ", "\n", "-", "\xff"} {
			s := strings.Repeat(c, 2*most+2)
			if typ != api.Text || c != `"` {
				wantParse(t, typ, s, api.Value{}, api.ErrForm)
			}
			wantParse(t, typ, s+c, api.Value{}, api.ErrLong)
			wantParse(t, typ, s+s, api.Value{}, api.ErrLong)
		}
	}
	whole := strings.Repeat(`"`, 2*most+2)
	wantParse(t, api.Text, whole, api.Value{Type: api.Text, B: strings.Repeat(`"`, most)}, api.OK)
	wantParse(t, api.Text, whole[1:], api.Value{}, api.ErrForm)
	wantParse(t, api.Text, `"`+strings.Repeat("a", most)+`"`, api.Value{Type: api.Text, B: strings.Repeat("a", most)}, api.OK)
	for _, n := range []int{most + 1, most + 2, 2*most - 1, 2 * most} {
		wantParse(t, api.Text, `"`+strings.Repeat("a", n)+`"`, api.Value{}, api.ErrForm)
	}
	wantParse(t, api.Text, `"`+strings.Repeat("a", 2*most+1)+`"`, api.Value{}, api.ErrLong)
	for _, typ := range []int{api.Octets, api.Domain} {
		wantParse(t, typ, strings.Repeat("61", most), api.Value{Type: typ, B: strings.Repeat("a", most)}, api.OK)
		wantParse(t, typ, strings.Repeat("61", most)+"6", api.Value{}, api.ErrForm)
		wantParse(t, typ, strings.Repeat("61", most)+"61", api.Value{}, api.ErrForm)
		wantParse(t, typ, strings.Repeat("61", most)+"616", api.Value{}, api.ErrLong)
	}
}

// P7.4: numbers that Print never tells, and such as are one beyond a type's ends.
func TestParseNoNumber(t *testing.T) {
	one := big.NewInt(1)
	for _, x := range numbers {
		for _, s := range []string{
			"", " ", "+1", "+0", "-0", "-", "+", "--1", "00", "01", "-01", "001", " 1", "1 ", "1\n", "\n1", "\t1", "1_0", "1_", "_1", "0x1", "0b1", "0o1",
			"1.0", "1e0", "a", "1a", "true", "false", `"1"`, `1"`, "\x001", "1\x00", "\xff", "１", "−1", "99999999999999999999", "-99999999999999999999",
			"18446744073709551616", "-9223372036854775809", strings.Repeat("1", 1000), "0" + x.greatest, "+" + x.greatest, x.greatest + "0", x.least + "x",
		} {
			wantParse(t, x.typ, s, api.Value{}, api.ErrForm)
		}
		wantParse(t, x.typ, new(big.Int).Add(bigOf(x.greatest), one).String(), api.Value{}, api.ErrForm)
		wantParse(t, x.typ, new(big.Int).Sub(bigOf(x.least), one).String(), api.Value{}, api.ErrForm)
	}
	for _, x := range numbers {
		if !x.signed() {
			wantParse(t, x.typ, "-1", api.Value{}, api.ErrForm)
		}
	}
	wantParse(t, api.Bool, "2", api.Value{}, api.ErrForm)
}

// P7.4: texts and bytes that Print never tells.
func TestParseNoBytes(t *testing.T) {
	for _, s := range []string{
		``, `"`, `"""`, `"a`, `a"`, `a`, `ab`, `"a"b"`, `"a"b`, `a"b"`, `"a"""b"`, `"""a"b"`, ` "a"`, `"a" `, `'a'`, `"a""`, `""a"`, `""""" `, `"""""`, "\"\n\"", "\"\x1f\"", "\"\x7f\"", `"é"`, "\"\xff\"",
	} {
		wantParse(t, api.Text, s, api.Value{}, api.ErrForm)
	}
	for _, typ := range []int{api.Octets, api.Domain} {
		for _, s := range []string{"0", "000", "0g", "g0", "FF", "fF", "Ff", "aB", "0x", "0x00", " 00", "00 ", "0 0", "00 00", "-0", "+0", "\n\n", `""`, `"00"`, "00\x00\x00", "０", "/0", ":0", "`0", "0/", "0:", "0`"} {
			wantParse(t, typ, s, api.Value{}, api.ErrForm)
		}
	}
}

// P7.4: all texts of up to four of these bytes, read as a grammar reads them.
func TestParseAll(t *testing.T) {
	const some = "019-+\"aFg \n\xff"
	texts := []string{""}
	for from, k := 0, 0; k < 4; k++ {
		end := len(texts)
		for _, s := range texts[from:end] {
			for i := range len(some) {
				texts = append(texts, s+some[i:i+1])
			}
		}
		from = end
	}
	for _, typ := range allTypes() {
		for _, s := range texts {
			want, wanted := read(typ, s)
			wantParse(t, typ, s, want, wanted)
		}
	}
}

// P7.4, P7.5: what Print tells comes back; with a byte put in, taken out or turned it is read as a grammar reads it, and what is taken prints as just that text.
func TestParseEdits(t *testing.T) {
	d := dice(17)
	const some = "0123456789-+\" aAfFg\n\x7f\xff"
	for _, typ := range allTypes() {
		for range 5000 {
			v := d.value(typ)
			wantBack(t, v)
			wantBack(t, dirty(v))
			s, err := Print(v)
			if err != api.OK {
				t.Fatalf("Print(%v): %d", v, err)
			}
			for range 1 + d.below(2) {
				at, c := d.below(len(s)+1), d.below(len(some))
				behind := s[min(at+d.below(2), len(s)):]
				s = s[:at] + some[c:c+d.below(2)] + behind
			}
			want, wanted := read(typ, s)
			wantParse(t, typ, s, want, wanted)
			if wanted == api.OK {
				wantPrint(t, want, s, api.OK)
			}
		}
	}
}
