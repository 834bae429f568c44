package frame

import (
	"strings"
	"testing"

	"tramway/api"
)

const tail = "1011111111" // what stands behind a body

// P2.5: there and back, whatever stands behind; without ack: ErrAck.
func TestThereAndBack(t *testing.T) {
	for _, f := range manyFrames(3000) {
		s := encoded(t, f)
		for _, behind := range []string{"", "0", "1", "000000", "111", "01010101", s} {
			got, n, err := Decode(s + behind)
			if got != Plain(f) || n != len(s) || err != api.OK {
				t.Fatalf("%v, %q behind: %v %d %d", f, behind, got, n, err)
			}
		}
		unheard, _ := Encode(f, false)
		wantFault(t, unheard, len(s)-9, api.ErrAck)
		wantFault(t, unheard+"000", len(s)-9, api.ErrAck)
	}
}

// P2.5: each length of data of each kind, bytes that it has not among them.
func TestThereAndBackLengths(t *testing.T) {
	for n := range 16 {
		for _, f := range []api.Frame{
			{ID: 0x123, Len: n, Data: [8]byte{1, 2, 3, 4, 5, 6, 7, 8}},
			{ID: 0x123, Len: n, Remote: true, Data: [8]byte{1, 2, 3, 4, 5, 6, 7, 8}},
			{ID: 0x1234567, Extended: true, Len: n, Data: [8]byte{1, 2, 3, 4, 5, 6, 7, 8}},
			{ID: 0x1234567, Extended: true, Remote: true, Len: n, Data: [8]byte{1, 2, 3, 4, 5, 6, 7, 8}},
		} {
			want := f
			for i := range want.Data {
				if f.Remote || i >= n {
					want.Data[i] = 0
				}
			}
			s := encoded(t, f)
			if got, m, err := Decode(s); got != want || m != len(s) || err != api.OK {
				t.Errorf("%v: %v %d %d", f, got, m, err)
			}
		}
	}
}

// P2.9: cut off anywhere.
func TestCutOff(t *testing.T) {
	for _, f := range manyFrames(200) {
		s := encoded(t, f)
		for n := range s {
			wantFault(t, s[:n], n, api.ErrShort)
		}
	}
	wantFault(t, "", 0, api.ErrShort)
}

// P2.2: texts that are no bits.
func TestDecodeNoBits(t *testing.T) {
	good := encoded(t, api.Frame{ID: 5, Len: 1})
	for _, s := range []string{"2", "x", "0 ", "\x00", "\xff", good + "2", good[:20] + "a" + good[20:], "111111x", "１", strings.Repeat("0", api.MaxBits-1) + "/"} {
		wantFault(t, s, 0, api.ErrForm)
	}
	fill := strings.Repeat("1", api.MaxBits-len(good))
	wantFault(t, good+fill+"1", 0, api.ErrLong)
	wantFault(t, "x"+good+fill, 0, api.ErrLong)
	wantFault(t, strings.Repeat("x", 2*api.MaxBits), 0, api.ErrLong)
	if f, n, err := Decode(good + fill); f != (api.Frame{ID: 5, Len: 1}) || n != len(good) || err != api.OK {
		t.Errorf("as many bits as there may be: %v %d %d", f, n, err)
	}
}

// P2.2: the first bit.
func TestDecodeFirstBit(t *testing.T) {
	good := encoded(t, api.Frame{ID: 5, Len: 1})
	for _, s := range []string{"1", "10", "111111", "1111111111", "1" + good, "1" + good[1:], "1000000"} {
		wantFault(t, s, 0, api.ErrFixed)
	}
}

// kindAt tells in which part of a body the bit at a place stands, unstuffed.
func kindAt(f api.Frame, at int) string {
	field := 1 + len(fieldOf(f))
	head := headOf(f)
	data := len(head) - 8*bytesIn(f)
	switch {
	case at < 1:
		return "first bit"
	case at < 12:
		return "high bits"
	case at < field:
		return "rest of the field"
	case at < data-4:
		return "reserved"
	case at < data:
		return "length"
	case at < len(head):
		return "data"
	case at < len(head)+14:
		return "sum"
	}
	return "last bit"
}

// P2.2: the sixth bit of one level, wherever one was put in.
func TestDecodeStuff(t *testing.T) {
	seen := map[string]int{}
	for _, f := range manyFrames(1000) {
		body := bodyOf(headOf(f))
		whole := stuffed(body) + tail
		for i := range body {
			ahead := stuffed(body[:i+1])
			if len(ahead) == len(stuffed(body[:i]))+1 {
				continue
			}
			place := len(ahead) - 1
			seen[kindAt(f, i)]++
			wantFault(t, flipped(whole, place), place, api.ErrStuff)
			wantFault(t, flipped(whole, place)[:place+1], place, api.ErrStuff)
			wantFault(t, flipped(whole, place)[:place], place, api.ErrShort)
			wantFault(t, flipped(whole, place, len(whole)-10, len(whole)-9, len(whole)-1), place, api.ErrStuff)
		}
	}
	for _, kind := range []string{"high bits", "rest of the field", "reserved", "length", "data", "sum", "last bit"} {
		if seen[kind] == 0 {
			t.Errorf("no bit was put in behind a bit of: %s", kind)
		}
	}
	wantFault(t, "0000000", 5, api.ErrStuff)
	wantFault(t, "000000", 5, api.ErrStuff)
	wantFault(t, "0"+"111111", 6, api.ErrStuff)
}

// P2.2: reserved bits of any level, and of an extended frame the bit behind the 11 high ones.
func TestDecodeReserved(t *testing.T) {
	for _, f := range manyFrames(500) {
		free := []int{14}
		if f.Extended {
			free = []int{12, 33, 34}
		}
		for set := range 1 << len(free) {
			head := headOf(f)
			for i, at := range free {
				if set>>i&1 == 1 {
					head = flipped(head, at)
				}
			}
			s := stuffed(bodyOf(head)) + tail
			if got, n, err := Decode(s); got != Plain(f) || n != len(s) || err != api.OK {
				t.Errorf("%v, bits %v as %b: %v %d %d", f, free, set, got, n, err)
			}
		}
	}
}

// P2.2: another sum: each of its bits; the place is behind the body, and what was put in behind its last bits.
func TestDecodeSum(t *testing.T) {
	ends := 0
	for _, f := range manyFrames(1000) {
		body := bodyOf(headOf(f))
		for i := len(body) - 15; i < len(body); i++ {
			turned := stuffed(flipped(body, i))
			if len(turned) > len(stuffed(flipped(body, i)[:len(body)-1]))+1 {
				ends++
			}
			wantFault(t, turned+tail, len(turned), api.ErrCRC)
			wantFault(t, turned+"0111111111", len(turned), api.ErrCRC)
			wantFault(t, turned+"1", len(turned), api.ErrCRC)
			wantFault(t, turned[:len(turned)-1], len(turned)-1, api.ErrShort)
		}
	}
	if ends == 0 {
		t.Error("no body with another sum ends with five of one level")
	}
}

// P2.2: a body that ends just where the text does, and has another sum: the sum is looked at as soon as the body is read.
func TestDecodeSumAtTheEnd(t *testing.T) {
	body := bodyOf(headOf(api.Frame{ID: 0x2a5, Len: 2, Data: [8]byte{3, 4}}))
	wantFault(t, stuffed(body), len(stuffed(body)), api.ErrShort)
	turned := stuffed(flipped(body, len(body)-1))
	wantFault(t, turned, len(turned), api.ErrCRC)
}

// P2.2: the bits behind the body, each alone and several at once: the first one is told.
func TestDecodeBehind(t *testing.T) {
	for _, f := range manyFrames(20)[600:] {
		body := stuffed(bodyOf(headOf(f)))
		for set := range 1 << len(tail) {
			s := body
			place, err := -1, api.OK
			for i := range tail {
				bit := tail[i]
				if set>>i&1 == 1 {
					bit ^= 1
					if place < 0 {
						place, err = len(s), api.ErrFixed
						if i == 1 {
							err = api.ErrAck
						}
					}
				}
				s += string(bit)
			}
			if place >= 0 {
				wantFault(t, s, place, err)
				wantFault(t, s[:place+1], place, err)
			}
		}
	}
}

// unstuffed is a text's bits up to its end or the first fault of stuffing, and behind each of them where the next one begins.
func unstuffed(s string) (plain string, ends []int, stop int, err api.Errno) {
	row := ""
	for i := 0; i < len(s); {
		bit := s[i : i+1]
		if !strings.HasSuffix(row, bit) {
			row = ""
		}
		row += bit
		i++
		if len(row) == 5 {
			if i == len(s) {
				break
			}
			if s[i:i+1] == bit {
				return plain, ends, i, api.ErrStuff
			}
			row = s[i : i+1]
			i++
		}
		plain += bit
		ends = append(ends, i)
	}
	return plain, ends, len(s), api.ErrShort
}

// told is what Decode should tell, by a way of its own: first all is unstuffed as far as it goes, then the parts are cut out of what is left.
func told(s string) (api.Frame, int, api.Errno) {
	if s != "" && s[0] == '1' {
		return api.Frame{}, 0, api.ErrFixed
	}
	plain, ends, stop, err := unstuffed(s)
	f, size, known := parts(plain)
	if !known || len(plain) < size {
		return api.Frame{}, stop, err
	}
	at := ends[size-1]
	if sumOf(plain[:size-15]) != plain[size-15:size] {
		return api.Frame{}, at, api.ErrCRC
	}
	for i := range tail {
		if at+i == len(s) {
			return api.Frame{}, len(s), api.ErrShort
		}
		if s[at+i] != tail[i] && i == 1 {
			return api.Frame{}, at + i, api.ErrAck
		}
		if s[at+i] != tail[i] {
			return api.Frame{}, at + i, api.ErrFixed
		}
	}
	return f, at + len(tail), api.OK
}

// parts cuts the frame out of unstuffed bits, as far as they go, and tells how many bits its body has.
func parts(s string) (api.Frame, int, bool) {
	var f api.Frame
	base := 19
	if len(s) < base {
		return f, 0, false
	}
	number := func(from, to int) uint32 {
		var n uint32
		for _, b := range s[from:to] {
			n = 2*n + uint32(b-'0')
		}
		return n
	}
	f.ID, f.Remote = number(1, 12), s[12] == '1'
	if s[13] == '1' {
		base = 39
		if len(s) < base {
			return f, 0, false
		}
		f.Extended, f.ID, f.Remote = true, number(1, 12)<<18+number(14, 32), s[32] == '1'
	}
	f.Len = int(number(base-4, base))
	size := base + 15
	if !f.Remote {
		size += 8 * min(f.Len, 8)
	}
	if len(s) < size {
		return f, size, true
	}
	for i := 0; i < min(f.Len, 8) && !f.Remote; i++ {
		f.Data[i] = byte(number(base+8*i, base+8*i+8))
	}
	return f, size, true
}

// P2.2: frames with any bits turned about, cut off, lengthened: told as by another reader.
func TestDecodeAnything(t *testing.T) {
	d := dice(22)
	count := map[api.Errno]int{}
	for range 60000 {
		s := encoded(t, d.frame())
		for range d.below(4) {
			s = flipped(s, d.below(len(s)))
		}
		if d.below(4) == 0 {
			s = s[:d.below(len(s)+1)]
		}
		if d.below(4) == 0 {
			s += []string{"0", "1", "000000", "111111", "0101"}[d.below(5)]
		}
		f, n, err := Decode(s)
		wf, wn, werr := told(s)
		if f != wf || n != wn || err != werr {
			t.Fatalf("Decode(%s): %v %d %d, want %v %d %d", s, f, n, err, wf, wn, werr)
		}
		count[err]++
	}
	for _, err := range []api.Errno{api.OK, api.ErrShort, api.ErrStuff, api.ErrCRC, api.ErrFixed, api.ErrAck} {
		if count[err] == 0 {
			t.Errorf("error %d was never told", err)
		}
	}
}
