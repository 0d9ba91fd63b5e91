package head

import (
	"encoding/binary"
	"strings"
	"testing"

	"wayfinder/api"
)

const (
	mostInt  = 1<<63 - 1
	leastInt = -mostInt - 1
)

var none [4]int

// words are numbers at the edges of what two octets hold, and such as may not be, and codes those of four bits.
var (
	words = []int{leastInt, -1 << 32, -65536, -256, -2, -1, 0, 1, 2, 127, 128, 255, 256, 257, 4660, 32767, 32768, 65279, 65534, 65535, 65536, 65537, 65536 + 255, 1 << 17, 1 << 32, 1<<32 + 1, 1 << 48, mostInt}
	codes = []int{leastInt, -1 << 32, -16, -2, -1, 0, 1, 2, 3, 7, 8, 14, 15, 16, 17, 31, 32, 255, 256, 65535, 65536, 1 << 32, 1<<32 + 1, 1 << 60, mostInt}
)

// switches are a head's fields that are on or off, in the order of their bits, the greatest one first, with a number for each.
func switches(h api.Head) ([]bool, []int) {
	return []bool{h.QR, h.AA, h.TC, h.RD, h.RA, h.AD, h.CD}, []int{32768, 1024, 512, 256, 128, 32, 16}
}

// plainFits is Check by another way: by what is left of a number of as many bits.
func plainFits(h api.Head) bool {
	return int(uint16(h.ID)) == h.ID && h.Opcode>>4 == 0 && h.Rcode>>4 == 0
}

// plainPut is Put by another way: by sums, and the library's own numbers in octets.
func plainPut(h api.Head, counts [4]int) (string, api.Errno) {
	if !plainFits(h) {
		return "", 4
	}
	second := h.Opcode * 2048
	on, number := switches(h)
	for i := range on {
		if on[i] {
			second += number[i]
		}
	}
	second += h.Rcode
	out := binary.BigEndian.AppendUint16(nil, uint16(h.ID))
	out = binary.BigEndian.AppendUint16(out, uint16(second))
	for _, c := range counts {
		if int(uint16(c)) != c {
			return "", 4
		}
		out = binary.BigEndian.AppendUint16(out, uint16(c))
	}
	return string(out), 0
}

// plainGet is Get by another way: octet by octet, by division.
func plainGet(s string) (api.Head, [4]int, api.Errno) {
	var counts [4]int
	if len(s) < 12 {
		return api.Head{}, counts, 1
	}
	a, b := s[2], s[3]
	h := api.Head{
		ID: int(s[0])*256 + int(s[1]), QR: a >= 128, Opcode: int(a) / 8 % 16, AA: a/4%2 == 1, TC: a/2%2 == 1, RD: a%2 == 1,
		RA: b >= 128, AD: b/32%2 == 1, CD: b/16%2 == 1, Rcode: int(b) % 16,
	}
	for i := range counts {
		counts[i] = int(s[4+2*i])*256 + int(s[5+2*i])
	}
	return h, counts, 0
}

// puts holds Check and Put against the plain ways, and that what is put is got (11.2).
func puts(t *testing.T, h api.Head, counts [4]int) {
	t.Helper()
	want := api.OK
	if !plainFits(h) {
		want = 4
	}
	if e := Check(h); e != want {
		t.Errorf("Check(%+v): %v, want %v", h, e, want)
	}
	s, e := Put(h, counts)
	if ws, we := plainPut(h, counts); s != ws || e != we {
		t.Errorf("Put(%+v, %v): %q, %v, want %q, %v", h, counts, s, e, ws, we)
	}
	if e != api.OK {
		return
	}
	for _, more := range []string{"", "\x00", "more"} {
		if g, n, e := Get(s + more); g != h || n != counts || e != api.OK {
			t.Errorf("%+v, %v: %+v, %v, %v", h, counts, g, n, e)
		}
	}
}

// gets holds Get against the plain way, and that what is got is put, but for 64, which isn't read (11.2).
func gets(t *testing.T, s string) {
	t.Helper()
	h, counts, e := Get(s)
	if wh, wn, we := plainGet(s); h != wh || counts != wn || e != we {
		t.Errorf("Get(%.40q): %+v, %v, %v, want %+v, %v, %v", s, h, counts, e, wh, wn, we)
	}
	if e != api.OK {
		return
	}
	want := s[:3] + string([]byte{s[3] &^ 64}) + s[4:12]
	if again, e := Put(h, counts); again != want || e != api.OK {
		t.Errorf("%q, put: %q, %v, want %q", s, again, e, want)
	}
}

// Promise 11.1: how many octets a head has.
func TestSize(t *testing.T) {
	if s, _ := Put(api.Head{}, none); Size != 12 || len(s) != Size {
		t.Error(Size, len(s))
	}
}

// Promise 11.1: the document's example.
func TestExample(t *testing.T) {
	h := api.Head{ID: 1, RD: true}
	s, e := Put(h, [4]int{1})
	if s != "\x00\x01\x01\x00\x00\x01\x00\x00\x00\x00\x00\x00" || e != api.OK {
		t.Errorf("%q, %v", s, e)
	}
	if g, n, e := Get(s); g != h || n != [4]int{1} || e != api.OK {
		t.Errorf("%+v, %v, %v", g, n, e)
	}
}

// Promise 11.1: each field in its own place, alone.
func TestPlaces(t *testing.T) {
	for _, c := range []struct {
		h      api.Head
		counts [4]int
		want   string
	}{
		{api.Head{}, none, "\x00\x00\x00\x00\x00\x00\x00\x00\x00\x00\x00\x00"},
		{api.Head{ID: 0x1234}, none, "\x12\x34\x00\x00\x00\x00\x00\x00\x00\x00\x00\x00"},
		{api.Head{ID: 65535}, none, "\xff\xff\x00\x00\x00\x00\x00\x00\x00\x00\x00\x00"},
		{api.Head{QR: true}, none, "\x00\x00\x80\x00\x00\x00\x00\x00\x00\x00\x00\x00"},
		{api.Head{Opcode: 1}, none, "\x00\x00\x08\x00\x00\x00\x00\x00\x00\x00\x00\x00"},
		{api.Head{Opcode: 8}, none, "\x00\x00\x40\x00\x00\x00\x00\x00\x00\x00\x00\x00"},
		{api.Head{Opcode: 15}, none, "\x00\x00\x78\x00\x00\x00\x00\x00\x00\x00\x00\x00"},
		{api.Head{AA: true}, none, "\x00\x00\x04\x00\x00\x00\x00\x00\x00\x00\x00\x00"},
		{api.Head{TC: true}, none, "\x00\x00\x02\x00\x00\x00\x00\x00\x00\x00\x00\x00"},
		{api.Head{RD: true}, none, "\x00\x00\x01\x00\x00\x00\x00\x00\x00\x00\x00\x00"},
		{api.Head{RA: true}, none, "\x00\x00\x00\x80\x00\x00\x00\x00\x00\x00\x00\x00"},
		{api.Head{AD: true}, none, "\x00\x00\x00\x20\x00\x00\x00\x00\x00\x00\x00\x00"},
		{api.Head{CD: true}, none, "\x00\x00\x00\x10\x00\x00\x00\x00\x00\x00\x00\x00"},
		{api.Head{Rcode: 1}, none, "\x00\x00\x00\x01\x00\x00\x00\x00\x00\x00\x00\x00"},
		{api.Head{Rcode: 15}, none, "\x00\x00\x00\x0f\x00\x00\x00\x00\x00\x00\x00\x00"},
		{api.Head{}, [4]int{1}, "\x00\x00\x00\x00\x00\x01\x00\x00\x00\x00\x00\x00"},
		{api.Head{}, [4]int{0, 2}, "\x00\x00\x00\x00\x00\x00\x00\x02\x00\x00\x00\x00"},
		{api.Head{}, [4]int{0, 0, 256}, "\x00\x00\x00\x00\x00\x00\x00\x00\x01\x00\x00\x00"},
		{api.Head{}, [4]int{0, 0, 0, 65535}, "\x00\x00\x00\x00\x00\x00\x00\x00\x00\x00\xff\xff"},
		{api.Head{ID: 65535, QR: true, Opcode: 15, AA: true, TC: true, RD: true, RA: true, AD: true, CD: true, Rcode: 15}, [4]int{65535, 65535, 65535, 65535}, "\xff\xff\xff\xbf\xff\xff\xff\xff\xff\xff\xff\xff"},
	} {
		if s, e := Put(c.h, c.counts); s != c.want || e != api.OK {
			t.Errorf("Put(%+v, %v): %q, %v, want %q", c.h, c.counts, s, e, c.want)
		}
		if h, n, e := Get(c.want); h != c.h || n != c.counts || e != api.OK {
			t.Errorf("Get(%q): %+v, %v, %v", c.want, h, n, e)
		}
	}
}

// Promise 11.1: heads that may be and such that may not, by each number at its edges.
func TestEdges(t *testing.T) {
	for _, n := range words {
		puts(t, api.Head{ID: n}, none)
		puts(t, api.Head{ID: n, QR: true, Opcode: 15, CD: true, Rcode: 15}, [4]int{1, 2, 3, 4})
		for i := range none {
			var counts [4]int
			counts[i] = n
			puts(t, api.Head{ID: 7, RD: true}, counts)
			puts(t, api.Head{ID: 65536}, counts)
			counts[3-i] = 65536
			puts(t, api.Head{}, counts)
		}
	}
	for _, o := range codes {
		for _, r := range codes {
			puts(t, api.Head{Opcode: o, Rcode: r}, none)
			puts(t, api.Head{ID: 65535, TC: true, Opcode: o, RA: true, Rcode: r}, [4]int{0, 65535})
		}
	}
}

// Promise 11.1: an error, told of ordinary wrong heads and counts, stands alone.
func TestWrong(t *testing.T) {
	for _, h := range []api.Head{{ID: -1}, {ID: 65536}, {Opcode: -1}, {Opcode: 16}, {Rcode: -1}, {Rcode: 16}, {ID: 65536, Opcode: 16, Rcode: 16}, {ID: 1, QR: true, Rcode: 4095}} {
		if e := Check(h); e != api.ErrRange {
			t.Errorf("Check(%+v): %v", h, e)
		}
		if s, e := Put(h, [4]int{1}); s != "" || e != api.ErrRange {
			t.Errorf("Put(%+v): %q, %v", h, s, e)
		}
	}
	for _, counts := range [][4]int{{-1}, {65536}, {0, -1}, {0, 65536}, {0, 0, -1}, {0, 0, 65536}, {0, 0, 0, -1}, {0, 0, 0, 65536}} {
		if s, e := Put(api.Head{ID: 1}, counts); s != "" || e != api.ErrRange {
			t.Errorf("Put(%v): %q, %v", counts, s, e)
		}
	}
}

// Promise 11.1: all numbers behind the ID; 64 isn't read.
func TestBits(t *testing.T) {
	for n := range 65536 {
		s := "\x00\x35" + string([]byte{byte(n >> 8), byte(n)}) + "\x00\x01\x00\x00\x00\x00\x00\x01"
		gets(t, s)
		h, _, _ := Get(s)
		puts(t, h, [4]int{1, 0, 0, 1})
		if n&64 == 0 {
			if g, _, _ := Get(s[:3] + string([]byte{s[3] | 64}) + s[4:]); g != h {
				t.Fatalf("64 is read: %+v, %+v", g, h)
			}
		}
	}
}

// Promise 11.1: fewer than twelve octets are no head; of more the first twelve count.
func TestLengths(t *testing.T) {
	s := "\x12\x34\xff\xff\x00\x01\x02\x03\xfe\xff\xff\xfe" + strings.Repeat("\xff", 300)
	for n := range len(s) + 1 {
		gets(t, s[:n])
		h, counts, e := Get(s[:n])
		switch {
		case n < 12 && (h != api.Head{} || counts != none || e != api.ErrShort):
			t.Errorf("%d octets: %+v, %v, %v", n, h, counts, e)
		case n >= 12 && (h.ID != 0x1234 || counts != [4]int{1, 0x0203, 0xfeff, 0xfffe} || e != api.OK):
			t.Errorf("%d octets: %+v, %v, %v", n, h, counts, e)
		}
	}
	gets(t, strings.Repeat("\x80", 70000))
}

// Promise 11.2: all IDs, and all counts, each in each place.
func TestUndone(t *testing.T) {
	for n := range 65536 {
		h := api.Head{ID: n, QR: n%2 == 1, Opcode: n % 16, RD: n%3 == 0, AD: n%5 == 0, Rcode: n / 16 % 16}
		counts := [4]int{n, 65535 - n, n ^ 255, n / 2}
		s, e := Put(h, counts)
		if g, m, f := Get(s); e != api.OK || g != h || m != counts || f != api.OK {
			t.Fatalf("%+v, %v: %q, %v, %+v, %v, %v", h, counts, s, e, g, m, f)
		}
	}
}

// P1: whatever the arguments, every call ends and tells what the plain ways tell.
func FuzzHead(f *testing.F) {
	f.Add("", 0, 0, 0, uint8(0), 0, 0, 0, 0)
	f.Add("\x00\x01\x01\x00\x00\x01\x00\x00\x00\x00\x00\x00", 1, 0, 0, uint8(8), 1, 0, 0, 0)
	f.Add("\xff\xff\xff\xff\xff\xff\xff\xff\xff\xff\xff\xff\xff", 65535, 15, 15, uint8(255), 65535, 65535, 65535, 65535)
	f.Add("\x80\x00\x00", 65536, 16, -1, uint8(1), -1, 65536, mostInt, leastInt)
	f.Fuzz(func(t *testing.T, s string, id, opcode, rcode int, on uint8, a, b, c, d int) {
		gets(t, s)
		counts := [4]int{a, b, c, d}
		h := api.Head{ID: id, QR: on&1 != 0, Opcode: opcode, AA: on&2 != 0, TC: on&4 != 0, RD: on&8 != 0, RA: on&16 != 0, AD: on&32 != 0, CD: on&64 != 0, Rcode: rcode}
		puts(t, h, counts)
		// And ones that may be.
		h.ID, h.Opcode, h.Rcode = id&65535, opcode&15, rcode&15
		puts(t, h, counts)
		puts(t, h, [4]int{a & 65535, b & 65535, c & 65535, d & 65535})
	})
}
