package octet

import (
	"fmt"
	"math/big"
	"strings"
	"testing"

	"wayfinder/api"
)

const (
	mostInt  = 1<<63 - 1
	leastInt = -mostInt - 1
)

// widths are those that numbers have, and such as are held to them.
var widths = []int{leastInt, -1 << 32, -256, -4, -1, 0, 1, 2, 3, 4, 5, 6, 7, 8, 9, 256, 257, 1 << 32, 1<<32 + 1, mostInt}

// numbers are those at the edges of each width, of either sign.
func numbers() []int {
	l := []int{0, 7, 0x0102030405060708, -0x0102030405060708, 0x7fffffffffffff80, mostInt, leastInt, leastInt + 1}
	for i := range 63 {
		for d := -2; d <= 2; d++ {
			l = append(l, 1<<i+d, -1<<i+d, 0xff<<i+d)
		}
	}
	return l
}

// plainWide is a width held to those from 0 to 4, by another way: by what was said of each.
func plainWide(width int) int {
	switch {
	case width < 0:
		return 0
	case width > 4:
		return 4
	}
	return width
}

// plainPut is Put by another way: by numbers of any size, divided.
func plainPut(width, n int) string {
	width = plainWide(width)
	over := new(big.Int).Lsh(big.NewInt(1), uint(8*width))
	return string(new(big.Int).Mod(big.NewInt(int64(n)), over).FillBytes(make([]byte, width)))
}

// plainEye is an Eye by another way: the whole text, a place in it, and whether it was too short once.
type plainEye struct {
	s     string
	at    int
	short bool
}

// take is Take of it.
func (p *plainEye) take(n int) string {
	if n < 0 {
		n = 0
	}
	if p.short || len(p.s)-p.at < n {
		p.short = true
		return ""
	}
	p.at += n
	return p.s[p.at-n : p.at]
}

// num is Num of it.
func (p *plainEye) num(width int) int {
	return int(new(big.Int).SetBytes([]byte(p.take(plainWide(width)))).Int64())
}

// err is Err of it.
func (p *plainEye) err() api.Errno {
	if p.short {
		return 1
	}
	return 0
}

// end is End of it.
func (p *plainEye) end() api.Errno {
	switch {
	case p.short:
		return 1
	case p.at != len(p.s):
		return 2
	}
	return 0
}

// stands tells what an Eye answers without reading.
func stands(t *testing.T, y *Eye, left int, err, end api.Errno) {
	t.Helper()
	// Twice, as asking changes nothing.
	for range 2 {
		if l, e, f := y.Left(), y.Err(), y.End(); l != left || e != err || f != end {
			t.Errorf("left %d, err %v, end %v, want %d, %v, %v", l, e, f, left, err, end)
		}
	}
}

// step is a reading: of a number, or of octets.
type step struct {
	num bool
	n   int
}

// both reads a text by steps, and holds each answer against the plain way.
func both(t *testing.T, s string, steps ...step) {
	t.Helper()
	y, p := New(s), &plainEye{s: s}
	stands(t, y, len(s), p.err(), p.end())
	for i, c := range steps {
		if c.num {
			if got, want := y.Num(c.n), p.num(c.n); got != want {
				t.Errorf("%.40q, %v: Num(%d) at %d: %d, want %d", s, steps, c.n, i, got, want)
			}
		} else if got, want := y.Take(c.n), p.take(c.n); got != want {
			t.Errorf("%.40q, %v: Take(%d) at %d: %.40q, want %.40q", s, steps, c.n, i, got, want)
		}
		stands(t, y, len(s)-p.at, p.err(), p.end())
	}
}

// Promise 10.1, and example 1.
func TestPut(t *testing.T) {
	for _, c := range []struct {
		width, n int
		want     string
	}{
		{2, 258, "\x01\x02"},
		{0, 0, ""}, {0, 7, ""}, {0, -1, ""}, {0, mostInt, ""},
		{1, 0, "\x00"}, {1, 1, "\x01"}, {1, 128, "\x80"}, {1, 255, "\xff"}, {1, 256, "\x00"}, {1, 257, "\x01"}, {1, 65535, "\xff"}, {1, 0x1234, "\x34"},
		{2, 0, "\x00\x00"}, {2, 1, "\x00\x01"}, {2, 255, "\x00\xff"}, {2, 256, "\x01\x00"}, {2, 53, "\x00\x35"}, {2, 65535, "\xff\xff"}, {2, 65536, "\x00\x00"}, {2, 65537, "\x00\x01"}, {2, 0x123456, "\x34\x56"},
		{3, 1, "\x00\x00\x01"}, {3, 0x010203, "\x01\x02\x03"}, {3, 1<<24 - 1, "\xff\xff\xff"}, {3, 1 << 24, "\x00\x00\x00"}, {3, 0x12345678, "\x34\x56\x78"},
		{4, 1, "\x00\x00\x00\x01"}, {4, 0x01020304, "\x01\x02\x03\x04"}, {4, 1<<31 - 1, "\x7f\xff\xff\xff"}, {4, 1 << 31, "\x80\x00\x00\x00"}, {4, 1<<32 - 1, "\xff\xff\xff\xff"}, {4, 1 << 32, "\x00\x00\x00\x00"}, {4, 0x0102030405060708, "\x05\x06\x07\x08"}, {4, mostInt, "\xff\xff\xff\xff"},
		// What is left of a number below 0 is one from 0 on.
		{1, -1, "\xff"}, {1, -255, "\x01"}, {1, -256, "\x00"}, {1, -257, "\xff"}, {2, -2, "\xff\xfe"}, {2, -65535, "\x00\x01"}, {3, -1, "\xff\xff\xff"}, {4, -1, "\xff\xff\xff\xff"}, {4, -1 << 31, "\x80\x00\x00\x00"}, {4, leastInt, "\x00\x00\x00\x00"}, {4, leastInt + 1, "\x00\x00\x00\x01"},
		// Widths that there are not.
		{-1, 1, ""}, {-2, 258, ""}, {-4, -1, ""}, {leastInt, 1, ""}, {-1 << 32, 1, ""},
		{5, 1, "\x00\x00\x00\x01"}, {5, 0x0102030405, "\x02\x03\x04\x05"}, {8, mostInt, "\xff\xff\xff\xff"}, {9, -1, "\xff\xff\xff\xff"}, {256, 258, "\x00\x00\x01\x02"}, {1 << 32, 258, "\x00\x00\x01\x02"}, {mostInt, 258, "\x00\x00\x01\x02"},
	} {
		if got := Put(c.width, c.n); got != c.want {
			t.Errorf("Put(%d, %d): %q, want %q", c.width, c.n, got, c.want)
		}
	}
}

// Promise 10.1: all widths, and numbers at all edges.
func TestPutEdges(t *testing.T) {
	for _, w := range widths {
		for _, n := range numbers() {
			if got, want := Put(w, n), plainPut(w, n); got != want {
				t.Errorf("Put(%d, %d): %q, want %q", w, n, got, want)
			}
		}
	}
	for n := -70000; n <= 70000; n++ {
		if got, want := Put(2, n), plainPut(2, n); got != want {
			t.Fatalf("Put(2, %d): %q, want %q", n, got, want)
		}
	}
}

// Promise 10.2: numbers of each width, and of widths that there are not.
func TestNum(t *testing.T) {
	const s = "\x01\x02\x03\x04\x05\x06"
	for _, c := range []struct {
		s           string
		width, want int
		left        int
	}{
		{s, 0, 0, 6}, {s, 1, 1, 5}, {s, 2, 0x0102, 4}, {s, 3, 0x010203, 3}, {s, 4, 0x01020304, 2},
		{s, 5, 0x01020304, 2}, {s, 6, 0x01020304, 2}, {s, 7, 0x01020304, 2}, {s, 260, 0x01020304, 2}, {s, 1 << 32, 0x01020304, 2}, {s, mostInt, 0x01020304, 2},
		{s, -1, 0, 6}, {s, -4, 0, 6}, {s, leastInt, 0, 6}, {"", 0, 0, 0}, {"", -1, 0, 0}, {"", leastInt, 0, 0},
		{"\x00", 1, 0, 0}, {"\x80", 1, 128, 0}, {"\xff", 1, 255, 0}, {"\x00\x00", 2, 0, 0}, {"\x00\xff", 2, 255, 0}, {"\xff\x00", 2, 65280, 0}, {"\xff\xff", 2, 65535, 0}, {"\xff\xff\xff", 3, 1<<24 - 1, 0},
		// None is below 0.
		{"\x7f\xff\xff\xff", 4, 1<<31 - 1, 0}, {"\x80\x00\x00\x00", 4, 1 << 31, 0}, {"\xff\xff\xff\xff", 4, 1<<32 - 1, 0}, {"\xff\xff\xff\xff", 9, 1<<32 - 1, 0},
		// Octets that are several of a point, or of none.
		{"\u00e9", 1, 0xc3, 1}, {"\u20ac", 3, 0xe282ac, 0}, {"\xc3(", 2, 0xc328, 0},
	} {
		y := New(c.s)
		if got := y.Num(c.width); got != c.want {
			t.Errorf("Num(%d) of %q: %d, want %d", c.width, c.s, got, c.want)
		}
		end := api.OK
		if c.left > 0 {
			end = api.ErrMore
		}
		stands(t, y, c.left, api.OK, end)
	}
}

// Promise 10.2: octets, as many as are asked for.
func TestTake(t *testing.T) {
	for _, c := range []struct {
		s    string
		n    int
		want string
		left int
	}{
		{"abc", 0, "", 3}, {"abc", 1, "a", 2}, {"abc", 2, "ab", 1}, {"abc", 3, "abc", 0},
		{"abc", -1, "", 3}, {"abc", -3, "", 3}, {"abc", leastInt, "", 3}, {"", 0, "", 0}, {"", -1, "", 0}, {"", leastInt, "", 0},
		{"\x00\xff\x00", 2, "\x00\xff", 1}, {"\u00e9x", 1, "\xc3", 2}, {"\u00e9x", 2, "\u00e9", 1},
		// More than a number has.
		{"abcdefgh", 5, "abcde", 3}, {"abcdefgh", 8, "abcdefgh", 0}, {strings.Repeat("a", 70000), 65536, strings.Repeat("a", 65536), 4464},
	} {
		y := New(c.s)
		if got := y.Take(c.n); got != c.want {
			t.Errorf("Take(%d) of %.40q: %.40q", c.n, c.s, got)
		}
		end := api.OK
		if c.left > 0 {
			end = api.ErrMore
		}
		stands(t, y, c.left, api.OK, end)
	}
}

// Promise 10.2: one reading goes on where the last one ended, whatever it read.
func TestGoOn(t *testing.T) {
	y := New("\x01\x02\x03abc\x00\x35\xff\xff\xff\xffend")
	if n := y.Num(3); n != 66051 {
		t.Error(n)
	}
	if s := y.Take(3); s != "abc" {
		t.Errorf("%q", s)
	}
	if n := y.Num(2); n != 53 {
		t.Error(n)
	}
	stands(t, y, 7, api.OK, api.ErrMore)
	if s, n := y.Take(-1), y.Num(0); s != "" || n != 0 {
		t.Error(s, n)
	}
	if n := y.Num(8); n != 1<<32-1 {
		t.Error(n)
	}
	// To be asked for the end ends nothing.
	stands(t, y, 3, api.OK, api.ErrMore)
	if s := y.Take(2) + y.Take(1); s != "end" {
		t.Errorf("%q", s)
	}
	stands(t, y, 0, api.OK, api.OK)
	if s, n := y.Take(0), y.Num(0); s != "" || n != 0 {
		t.Error(s, n)
	}
	stands(t, y, 0, api.OK, api.OK)
}

// Promise 10.2: where there are not so many nothing is read, then and from then on, however few are asked for.
func TestShort(t *testing.T) {
	for _, c := range []struct {
		s    string
		read step // too many
	}{
		{"", step{true, 1}}, {"", step{true, 4}}, {"", step{true, mostInt}}, {"", step{false, 1}}, {"", step{false, mostInt}},
		{"a", step{true, 2}}, {"a", step{false, 2}}, {"ab", step{true, 3}}, {"ab", step{false, 3}}, {"abc", step{true, 4}}, {"abc", step{true, 5}}, {"abc", step{true, mostInt}}, {"abc", step{false, 4}}, {"abc", step{false, 1 << 32}}, {"abc", step{false, mostInt}},
		{"\xff\xff\xff", step{true, 4}}, {strings.Repeat("a", 300), step{false, 301}}, {strings.Repeat("a", 300), step{false, 1<<32 + 1}},
	} {
		y := New(c.s)
		for _, d := range []step{c.read, {true, 0}, {false, 0}, {true, -1}, {false, -1}, {true, 1}, {false, 1}, {false, len(c.s)}, c.read} {
			if d.num {
				if n := y.Num(d.n); n != 0 {
					t.Errorf("Num(%d) of %.40q: %d", d.n, c.s, n)
				}
			} else if s := y.Take(d.n); s != "" {
				t.Errorf("Take(%d) of %.40q: %.40q", d.n, c.s, s)
			}
			stands(t, y, len(c.s), api.ErrShort, api.ErrShort)
		}
		both(t, c.s, c.read, step{true, 1}, step{false, 1})
	}
	// What was read ahead of that stays read.
	y := New("abc")
	if s, n := y.Take(1), y.Num(3); s != "a" || n != 0 {
		t.Error(s, n)
	}
	if s, n := y.Take(2), y.Num(1); s != "" || n != 0 {
		t.Error(s, n)
	}
	stands(t, y, 2, api.ErrShort, api.ErrShort)
}

// Promise 10.2: Eyes of one text know nothing of each other.
func TestTwo(t *testing.T) {
	const s = "\x01\x02\x03"
	y, z := New(s), New(s)
	if n := y.Num(4); n != 0 {
		t.Error(n)
	}
	if n := z.Num(2); n != 258 {
		t.Error(n)
	}
	stands(t, y, 3, api.ErrShort, api.ErrShort)
	stands(t, z, 1, api.OK, api.ErrMore)
	stands(t, New(s), 3, api.OK, api.ErrMore)
}

// Promise 10.2: of a nil Eye, whatever is asked, and however often.
func TestNil(t *testing.T) {
	var y *Eye
	for _, n := range widths {
		if got := y.Num(n); got != 0 {
			t.Errorf("Num(%d): %d", n, got)
		}
		if got := y.Take(n); got != "" {
			t.Errorf("Take(%d): %q", n, got)
		}
		stands(t, y, 0, api.ErrState, api.ErrState)
	}
	if New("") == nil {
		t.Error("an Eye of nothing is none")
	}
	stands(t, New(""), 0, api.OK, api.OK)
}

// Promise 10.2: all short rows of readings of texts up to ten octets.
func TestRows(t *testing.T) {
	var parts []step
	for _, n := range []int{-1, 0, 1, 2, 3, 4, 5} {
		parts = append(parts, step{true, n}, step{false, n})
	}
	const s = "\x00\x80\xff\x01\x7f\xfe\x00\xc3\xa9z"
	for n := range len(s) + 1 {
		for _, a := range parts {
			for _, b := range parts {
				for _, c := range parts {
					both(t, s[len(s)-n:], a, b, c)
				}
			}
		}
	}
}

// Promise 10.3: what is put is read as it was, by widths that there are and such as are held to them.
func TestUndone(t *testing.T) {
	for _, w := range widths {
		over := 1 << (8 * plainWide(w))
		for _, n := range numbers() {
			if n < 0 || n >= over {
				continue
			}
			y := New(Put(w, n))
			if got := y.Num(w); got != n {
				t.Errorf("%d in %d octets: %d", n, w, got)
			}
			stands(t, y, 0, api.OK, api.OK)
		}
	}
	for n := range 65536 {
		if got := New(Put(2, n)).Num(2); got != n {
			t.Fatalf("%d in two octets: %d", n, got)
		}
	}
}

// Promise 10.3: what is put one behind the other is read one behind the other, and what was read is put as it was.
func TestUndoneRow(t *testing.T) {
	l := numbers()
	var put strings.Builder
	for i, n := range l {
		put.WriteString(Put(i%5, n) + fmt.Sprint(i))
	}
	y, again := New(put.String()), ""
	for i, n := range l {
		got := y.Num(i % 5)
		// Of a power of 2, what is left is what its lower bits say.
		if got != n&(1<<(8*(i%5))-1) {
			t.Errorf("%d in %d octets: %d", n, i%5, got)
		}
		again += Put(i%5, got)
		if s := y.Take(len(fmt.Sprint(i))); s != fmt.Sprint(i) {
			t.Errorf("%q behind number %d", s, i)
		}
		again += fmt.Sprint(i)
	}
	stands(t, y, 0, api.OK, api.OK)
	if again != put.String() {
		t.Error("what was read is put as something else")
	}
}

// P1: whatever the arguments, every call ends and tells what the plain ways tell.
func FuzzOctet(f *testing.F) {
	f.Add("", 0, 0, 0, "")
	f.Add("\x01\x02\x03abc", 3, 2, 66051, "\x01\x02")
	f.Add("\xff\xff\xff\xff", 4, 1, -1, "\x09\x00")
	f.Add("abc", mostInt, leastInt, leastInt, "\xff\x80\x7f")
	f.Fuzz(func(t *testing.T, s string, w, m, n int, row string) {
		if got, want := Put(w, n), plainPut(w, n); got != want {
			t.Errorf("Put(%d, %d): %q, want %q", w, n, got, want)
		}
		steps := []step{{true, w}, {false, m}}
		for _, c := range []byte(row) {
			steps = append(steps, step{c&1 == 1, int(int8(c)) >> 1})
		}
		both(t, s, steps...)
		both(t, s, step{false, m}, step{true, w})
	})
}
