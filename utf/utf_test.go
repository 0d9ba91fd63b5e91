package utf

import (
	"math"
	"slices"
	"strings"
	"testing"

	"wayfinder/api"
)

// plainPoint is Point as the chapter's words have it.
func plainPoint(c rune) bool {
	return 0 <= c && c <= 0x10ffff && (c < 0xd800 || 0xdfff < c)
}

// plainBytes are a point's bytes, by the sums of the chapter's words.
func plainBytes(c rune) string {
	six := func(n rune) rune { return 0x80 + c>>n%64 }
	row := []rune{0xf0 + c>>18, six(12), six(6), six(0)}
	switch {
	case c < 0x80:
		row = []rune{c}
	case c < 0x800:
		row = []rune{0xc0 + c>>6, six(0)}
	case c < 0x10000:
		row = []rune{0xe0 + c>>12, six(6), six(0)}
	}
	var out []byte
	for _, b := range row {
		out = append(out, byte(b))
	}
	return string(out)
}

// edges are runes at which the rows of bytes change, and some that are no points.
func edges() []rune {
	var out []rune
	for _, c := range []rune{0, 0x7f, 0x80, 0xe9, 0x7ff, 0x800, 0x0fff, 0x1000, 0xd7ff, 0xd800, 0xdbff, 0xdc00, 0xdfff, 0xe000, 0xfdd0, 0xfffd, 0xffff, 0x10000, 0x3ffff, 0x40000, 0xfffff, 0x100000, 0x10ffff, 0x110000, 0x1fffff, 0x200000} {
		out = append(out, c-1, c, c+1)
	}
	return append(out, -0x800, -65, math.MinInt32, math.MinInt32+65, math.MaxInt32, math.MaxInt32-1)
}

// begins are bytes at which the first byte of a row, or one of the others, changes its meaning.
const begins = "\x00A\x7f\x80\x8f\x90\x9f\xa0\xbf\xc0\xc1\xc2\xdf\xe0\xe1\xec\xed\xee\xef\xf0\xf1\xf3\xf4\xf5\xf7\xf8\xfd\xff"

// rows are all texts of up to four such bytes.
func rows() []string {
	all := []string{""}
	last := all
	for range 4 {
		var next []string
		for _, s := range last {
			for i := range len(begins) {
				next = append(next, s+begins[i:i+1])
			}
		}
		all = append(all, next...)
		last = next
	}
	return all
}

// known are all points by their bytes.
func known() map[string]rune {
	out := map[string]rune{}
	for c := rune(0); c <= 0x10ffff; c++ {
		if plainPoint(c) {
			out[plainBytes(c)] = c
		}
	}
	return out
}

// plainNext is Next by another way: by a table of all points.
func plainNext(all map[string]rune, s string) (rune, int, bool) {
	for n := 1; n <= min(4, len(s)); n++ {
		if c, ok := all[s[:n]]; ok {
			return c, n, true
		}
	}
	return 0, 0, false
}

// Promise 2.1.
func TestPoint(t *testing.T) {
	for _, c := range []struct {
		c    rune
		want bool
	}{
		{0, true}, {'A', true}, {0x7f, true}, {0x80, true}, {0xe9, true},
		{0xd7ff, true}, {0xd800, false}, {0xdbff, false}, {0xdc00, false}, {0xdfff, false}, {0xe000, true},
		{0xfdd0, true}, {0xfffd, true}, {0xfffe, true}, {0xffff, true}, {0x10000, true},
		{0x10fffe, true}, {0x10ffff, true}, {0x110000, false}, {0x1fffff, false},
		{-1, false}, {-65, false}, {math.MinInt32, false}, {math.MaxInt32, false},
	} {
		if got := Point(c.c); got != c.want {
			t.Errorf("Point(%x): %v", c.c, got)
		}
	}
	for c := rune(-0x1000); c < 0x120000; c++ {
		if got := Point(c); got != plainPoint(c) {
			t.Errorf("Point(%x): %v", c, got)
		}
	}
}

// Promise 2.1, and example 1.
func TestNext(t *testing.T) {
	for _, c := range []struct {
		s  string
		c  rune
		n  int
		ok bool
	}{
		{"", 0, 0, false},
		{"\x00", 0, 1, true},
		{"\x00\x00", 0, 1, true},
		{"A", 'A', 1, true},
		{"Ab", 'A', 1, true},
		{"A\xff", 'A', 1, true},
		{"\x7f", 0x7f, 1, true},
		{"\xc2\x80", 0x80, 2, true},
		{"\xc3\xa9", 0xe9, 2, true},
		{"\xc3\xa9\xa9", 0xe9, 2, true},
		{"\xc3\xa9\xc3", 0xe9, 2, true},
		{"\xdf\xbf", 0x7ff, 2, true},
		{"\xe0\xa0\x80", 0x800, 3, true},
		{"\xe2\x82\xac!", 0x20ac, 3, true},
		{"\xed\x9f\xbf", 0xd7ff, 3, true},
		{"\xee\x80\x80", 0xe000, 3, true},
		{"\xef\xbf\xbd", 0xfffd, 3, true},
		{"\xef\xbf\xbd\xff", 0xfffd, 3, true},
		{"\xef\xbf\xbf", 0xffff, 3, true},
		{"\xf0\x90\x80\x80", 0x10000, 4, true},
		{"\xf4\x8f\xbf\xbf", 0x10ffff, 4, true},
		{"\xf4\x8f\xbf\xbf\xbf", 0x10ffff, 4, true},
		// More bytes than the point has.
		{"\xc0\x80", 0, 0, false},
		{"\xc1\xbf", 0, 0, false},
		{"\xe0\x80\x80", 0, 0, false},
		{"\xe0\x9f\xbf", 0, 0, false},
		{"\xf0\x80\x80\x80", 0, 0, false},
		{"\xf0\x8f\xbf\xbf", 0, 0, false},
		// No points.
		{"\xed\xa0\x80", 0, 0, false},
		{"\xed\xbf\xbf", 0, 0, false},
		{"\xf4\x90\x80\x80", 0, 0, false},
		{"\xf5\x80\x80\x80", 0, 0, false},
		{"\xf7\xbf\xbf\xbf", 0, 0, false},
		{"\xf8\x88\x80\x80\x80", 0, 0, false},
		{"\xfe", 0, 0, false},
		{"\xff", 0, 0, false},
		// No first byte, too few others, or another one among them.
		{"\x80", 0, 0, false},
		{"\xbf", 0, 0, false},
		{"\xa9\xc3", 0, 0, false},
		{"\xc3", 0, 0, false},
		{"\xc3A", 0, 0, false},
		{"\xc3\xc3\xa9", 0, 0, false},
		{"\xe2\x82", 0, 0, false},
		{"\xe2\x82A", 0, 0, false},
		{"\xe2A\xac", 0, 0, false},
		{"\xf0\x90\x80", 0, 0, false},
		{"\xf0\x90\x80A", 0, 0, false},
		{"\xffA", 0, 0, false},
	} {
		if got, n, ok := Next(c.s); got != c.c || n != c.n || ok != c.ok {
			t.Errorf("Next(%q): %x, %d, %v", c.s, got, n, ok)
		}
	}
}

// Promise 2.1: each point has just one row of bytes, which is what Text tells and what Next and Runes find.
func TestAllPoints(t *testing.T) {
	for c := rune(0); c <= 0x10ffff; c++ {
		s, e := Text(c)
		if !plainPoint(c) {
			if s != "" || e != api.ErrRange {
				t.Errorf("Text(%x): %q, %v", c, s, e)
			}
			continue
		}
		if s != plainBytes(c) || e != api.OK {
			t.Errorf("Text(%x): %q, %v", c, s, e)
		}
		if got, n, ok := Next(plainBytes(c) + "\x80"); got != c || n != len(plainBytes(c)) || !ok {
			t.Errorf("Next of %x: %x, %d, %v", c, got, n, ok)
		}
		if l, e := Runes(plainBytes(c)); !slices.Equal(l, []rune{c}) || e != api.OK {
			t.Errorf("Runes of %x: %x, %v", c, l, e)
		}
	}
}

// Promise 2.1: whatever the bytes are.
func TestNextAll(t *testing.T) {
	all := known()
	for _, s := range rows() {
		c, n, ok := plainNext(all, s)
		if gotC, gotN, got := Next(s); gotC != c || gotN != n || got != ok {
			t.Errorf("Next(%q): %x, %d, %v", s, gotC, gotN, got)
		}
	}
}

// Promise 2.1.
func TestRunes(t *testing.T) {
	for _, c := range []struct {
		s    string
		want []rune
		e    api.Errno
	}{
		{"", nil, api.OK},
		{"A", []rune{'A'}, api.OK},
		{"\x00", []rune{0}, api.OK},
		{"a\xc3\xa9\xe2\x82\xac\xf0\x9f\x98\x80z", []rune{'a', 0xe9, 0x20ac, 0x1f600, 'z'}, api.OK},
		{"zaz", []rune{'z', 'a', 'z'}, api.OK},
		{"e\xcc\x81", []rune{'e', 0x301}, api.OK},
		{"\xef\xbb\xbf", []rune{0xfeff}, api.OK},
		{"\xef\xbf\xbd\xef\xbf\xbd", []rune{0xfffd, 0xfffd}, api.OK},
		{"\xc0\x80", nil, api.ErrForm},
		{"a\xc0\x80", nil, api.ErrForm},
		{"abc\xff", nil, api.ErrForm},
		{"\xffabc", nil, api.ErrForm},
		{"a\xffb", nil, api.ErrForm},
		{"a\xe2\x82", nil, api.ErrForm},
		{"a\xed\xa0\x80b", nil, api.ErrForm},
		{"\xed\xa0\xbd\xed\xb8\x80", nil, api.ErrForm},
		{"\xf4\x90\x80\x80", nil, api.ErrForm},
		{"\xc3\xa9\xa9", nil, api.ErrForm},
		{"\xef\xbf\xbd\xef\xbf", nil, api.ErrForm},
		{strings.Repeat("\xc3\xa9", 5000) + "\xc3", nil, api.ErrForm},
		{strings.Repeat("\xc3\xa9", 5000), slices.Repeat([]rune{0xe9}, 5000), api.OK},
	} {
		if got, e := Runes(c.s); !slices.Equal(got, c.want) || e != c.e {
			t.Errorf("Runes(%.40q): %x, %v", c.s, got, e)
		}
	}
}

// A list that is handed out is new memory.
func TestRunesNew(t *testing.T) {
	s := "ab"
	l, _ := Runes(s)
	l[0] = 'x'
	if got, _ := Runes(s); !slices.Equal(got, []rune{'a', 'b'}) {
		t.Errorf("%q", got)
	}
}

// Promise 2.1.
func TestText(t *testing.T) {
	for _, c := range []struct {
		l    []rune
		want string
		e    api.Errno
	}{
		{nil, "", api.OK},
		{[]rune{}, "", api.OK},
		{[]rune{0}, "\x00", api.OK},
		{[]rune{'A', 'b'}, "Ab", api.OK},
		{[]rune{0xe9}, "\xc3\xa9", api.OK},
		{[]rune{0x7f, 0x80, 0x7ff, 0x800}, "\x7f\xc2\x80\xdf\xbf\xe0\xa0\x80", api.OK},
		{[]rune{0xd7ff, 0xe000, 0xfffd}, "\xed\x9f\xbf\xee\x80\x80\xef\xbf\xbd", api.OK},
		{[]rune{0xffff, 0x10000, 0x10ffff}, "\xef\xbf\xbf\xf0\x90\x80\x80\xf4\x8f\xbf\xbf", api.OK},
		{[]rune{0xd800}, "", api.ErrRange},
		{[]rune{0xdfff}, "", api.ErrRange},
		{[]rune{0xd83d, 0xde00}, "", api.ErrRange},
		{[]rune{0x110000}, "", api.ErrRange},
		{[]rune{-1}, "", api.ErrRange},
		{[]rune{math.MaxInt32}, "", api.ErrRange},
		{[]rune{math.MinInt32}, "", api.ErrRange},
		{[]rune{-1, 'a'}, "", api.ErrRange},
		{[]rune{'a', -1}, "", api.ErrRange},
		{[]rune{'a', 0xd800, 'b'}, "", api.ErrRange},
	} {
		kept := slices.Clone(c.l)
		if got, e := Text(c.l...); got != c.want || e != c.e {
			t.Errorf("Text(%x): %q, %v", c.l, got, e)
		}
		if !slices.Equal(c.l, kept) {
			t.Errorf("Text(%x) wrote into the list: %x", kept, c.l)
		}
	}
	if got, e := Text(); got != "" || e != api.OK {
		t.Errorf("Text of nothing: %q, %v", got, e)
	}
	if got, e := Text('a', 0xe9); got != "a\xc3\xa9" || e != api.OK {
		t.Errorf("Text of two: %q, %v", got, e)
	}
}

// Promise 2.2: what Text tells, Runes reads back, and what is no point has no bytes.
func TestTextUndone(t *testing.T) {
	for _, a := range edges() {
		for _, b := range edges() {
			l := []rune{a, b, a}
			s, e := Text(l...)
			if !plainPoint(a) || !plainPoint(b) {
				if s != "" || e != api.ErrRange {
					t.Errorf("Text(%x): %q, %v", l, s, e)
				}
				continue
			}
			if e != api.OK || s != plainBytes(a)+plainBytes(b)+plainBytes(a) {
				t.Errorf("Text(%x): %q, %v", l, s, e)
			}
			if got, e := Runes(s); e != api.OK || !slices.Equal(got, l) {
				t.Errorf("Runes(%q): %x, %v", s, got, e)
			}
		}
	}
}

// Promise 2.2: what Runes reads, Text tells again.
func TestRunesUndone(t *testing.T) {
	all := known()
	for _, s := range rows() {
		checkUndone(t, s, func(s string) (rune, int, bool) { return plainNext(all, s) })
	}
}

// checkUndone holds what Runes answers against what next tells, and has Text undo it.
func checkUndone(t *testing.T, s string, next func(string) (rune, int, bool)) {
	var want []rune
	wantE := api.OK
	for rest := s; rest != ""; {
		c, n, ok := next(rest)
		if !ok {
			want, wantE = nil, api.ErrForm
			break
		}
		want, rest = append(want, c), rest[n:]
	}
	l, e := Runes(s)
	if e != wantE || !slices.Equal(l, want) {
		t.Errorf("Runes(%q): %x, %v, want %x, %v", s, l, e, want, wantE)
	}
	if e != api.OK {
		return
	}
	if got, e := Text(l...); got != s || e != api.OK {
		t.Errorf("Text(%x): %q, %v, want %q", l, got, e, s)
	}
}

// Promises 2.1, 2.2 and P1, at any bytes.
func FuzzUtf(f *testing.F) {
	for _, s := range []string{"", "a\u00e9\u20ac\U0001f600", "\xc0\x80", "\xed\xa0\x80", "\xf4\x90\x80\x80", "\xef\xbf\xbd\xff", "\xe2\x82"} {
		f.Add(s)
	}
	all := known()
	f.Fuzz(func(t *testing.T, s string) {
		checkUndone(t, s, func(s string) (rune, int, bool) { return plainNext(all, s) })
	})
}
