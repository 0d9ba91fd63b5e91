package packed

import (
	"bytes"
	"encoding/binary"
	"slices"
	"strings"
	"testing"

	"wayfinder/api"
)

const (
	mostInt  = 1<<63 - 1
	leastInt = -mostInt - 1
)

// offsets are such as may be, up to the edge of what a pointer tells, and such as may not.
var offsets = []int{leastInt, leastInt + 300, -16384, -256, -5, -2, -1, 0, 1, 2, 12, 255, 256, 0x3f00, 0x3ffa, 0x3ffb, 0x3ffc, 0x3ffd, 0x3ffe, 0x3fff, 0x4000, 0x4001, 0x7fff, 0xbfff, 0xc000, 0xffff, 1 << 32, mostInt - 2, mostInt}

// plainTable is a table by another way: a list, looked through from its front.
type plainTable struct {
	names []api.Name
	at    []int
}

// find is the offset of a name in the list, -1 if it isn't there.
func (t *plainTable) find(n api.Name) int {
	if i := slices.IndexFunc(t.names, func(m api.Name) bool { return slices.Equal(m, n) }); i >= 0 {
		return t.at[i]
	}
	return -1
}

// plainCheck is what is wrong with a name.
func plainCheck(n api.Name) api.Errno {
	for _, l := range n {
		if len(l) < 1 || len(l) > 63 {
			return 7
		}
	}
	if len(strings.Join(n, "."))+2 > 255 {
		return 3
	}
	return 0
}

// put is Put by another way: first all that goes into the octets, then all that comes into the table.
func (t *plainTable) put(n api.Name, at int) (string, api.Errno) {
	if e := plainCheck(n); e != 0 {
		return "", e
	}
	var out bytes.Buffer
	var starts []int
	tail := []byte{0}
	for i, l := range n {
		if p := t.find(n[i:]); p >= 0 {
			tail = binary.BigEndian.AppendUint16(nil, uint16(p)|3<<14)
			break
		}
		starts = append(starts, out.Len())
		out.WriteByte(byte(len(l)))
		out.WriteString(l)
	}
	out.Write(tail)
	for i, s := range starts {
		if at >= 0 && at <= 16383 && at+s <= 16383 {
			t.names = append(t.names, n[i:])
			t.at = append(t.at, at+s)
		}
	}
	return out.String(), 0
}

// plainGet is Get by another way: by places in the message, without breaking off.
func plainGet(msg string, at int) (api.Name, int, api.Errno) {
	if at < 0 || len(msg) < at {
		return nil, 0, 4
	}
	var n api.Name
	end, size := -1, 1
	for i, bound := at, at; ; {
		if i == len(msg) {
			return nil, 0, 1
		}
		switch c := int(msg[i]); c / 64 {
		case 0:
			if c == 0 {
				if end < 0 {
					end = i + 1
				}
				return n, end, 0
			}
			if i+c >= len(msg) {
				return nil, 0, 1
			}
			size += c + 1
			if size > 255 {
				return nil, 0, 3
			}
			n = append(n, msg[i+1:i+1+c])
			i += c + 1
		case 3:
			if i+1 == len(msg) {
				return nil, 0, 1
			}
			if end < 0 {
				end = i + 2
			}
			to := c%64*256 + int(msg[i+1])
			if to >= bound {
				return nil, 0, 9
			}
			i, bound = to, to
		default:
			return nil, 0, 7
		}
	}
}

// both are a table and a plain one, with the same names.
type both struct {
	t     *Table
	plain *plainTable
}

// tables are two without names.
func tables() both {
	return both{New(), &plainTable{}}
}

// puts holds Put against the plain way, by a table and by none, and is the octets by the table.
func (b both) puts(t *testing.T, n api.Name, at int) string {
	t.Helper()
	given := slices.Clone(n)
	s, e := b.t.Put(n, at)
	if ws, we := b.plain.put(n, at); s != ws || e != we {
		t.Errorf("Put(%.80q, %d): %.80q, %v, want %.80q, %v", n, at, s, e, ws, we)
	}
	var no *Table
	alone, e := no.Put(n, at)
	if ws, we := new(plainTable).put(n, at); alone != ws || e != we {
		t.Errorf("Put(%.80q, %d), by no table: %.80q, %v, want %.80q, %v", n, at, alone, e, ws, we)
	}
	if !slices.Equal(n, given) {
		t.Errorf("%q was written into: %q", given, n)
	}
	return s
}

// gets holds Get against the plain way, and is what it tells.
func gets(t *testing.T, msg string, at int) (api.Name, int, api.Errno) {
	t.Helper()
	n, end, e := Get(msg, at)
	if wn, wend, we := plainGet(msg, at); !slices.Equal(n, wn) || end != wend || e != we {
		t.Errorf("Get(%.80q, %d): %.80q, %d, %v, want %.80q, %d, %v", msg, at, n, end, e, wn, wend, we)
	}
	if e != api.OK && (n != nil || end != 0) {
		t.Errorf("Get(%.80q, %d): %.80q, %d beside %v", msg, at, n, end, e)
	}
	return n, end, e
}

// undone puts names one behind the other, behind some octets, and gets them again: with a table, and without (12.3).
func undone(t *testing.T, ahead string, names []api.Name) {
	t.Helper()
	for _, b := range []both{tables(), {nil, nil}} {
		msg := ahead
		var at []int
		for _, n := range names {
			s := ""
			if b.t != nil {
				s = b.puts(t, n, len(msg))
			} else {
				s, _ = b.t.Put(n, len(msg))
			}
			at = append(at, len(msg))
			msg += s
		}
		at = append(at, len(msg))
		for i, n := range names {
			if g, end, e := gets(t, msg, at[i]); !slices.Equal(g, n) || end != at[i+1] || e != api.OK {
				t.Errorf("%.80q at %d of %d octets: %.80q, %d, %v", n, at[i], len(msg), g, end, e)
			}
		}
	}
}

// long is a name of that size, of labels that are as long as may be, all of one letter.
func long(size int, letter string) api.Name {
	var n api.Name
	for left := size - 1; left > 1; {
		l := min(left-1, 63)
		// One octet alone would be left, and no label takes that.
		if left-1-l == 1 {
			l--
		}
		n = append(n, strings.Repeat(letter, l))
		left -= l + 1
	}
	return n
}

// wire are a name's octets, without a pointer, and without what ends them.
func wire(n api.Name) string {
	s := ""
	for _, l := range n {
		s += string([]byte{byte(len(l))}) + l
	}
	return s
}

// ptr is a pointer.
func ptr(to int) string {
	return string([]byte{byte(0xc0 | to>>8), byte(to)})
}

// Promise 12.1: the document's example.
func TestExample(t *testing.T) {
	p := New()
	a, e := p.Put(api.Name{"a", "b"}, 0)
	if a != "\x01a\x01b\x00" || e != api.OK {
		t.Errorf("%q, %v", a, e)
	}
	c, e := p.Put(api.Name{"c", "b"}, 5)
	if c != "\x01c\xc0\x02" || e != api.OK {
		t.Errorf("%q, %v", c, e)
	}
	if n, end, e := Get(a+c, 5); !slices.Equal(n, api.Name{"c", "b"}) || end != 9 || e != api.OK {
		t.Errorf("%q, %d, %v", n, end, e)
	}
}

// Promise 12.1: what comes into the table, and which pointer is taken.
func TestTable(t *testing.T) {
	type step struct {
		n    api.Name
		at   int
		want string
	}
	for what, steps := range map[string][]step{
		"the root never":                       {{nil, 0, "\x00"}, {api.Name{}, 1, "\x00"}, {api.Name{"a"}, 2, "\x01a\x00"}, {nil, 5, "\x00"}},
		"a whole name":                         {{api.Name{"a", "b"}, 12, "\x01a\x01b\x00"}, {api.Name{"a", "b"}, 17, "\xc0\x0c"}, {api.Name{"a", "b"}, 19, "\xc0\x0c"}},
		"the longest, not the shorter one":     {{api.Name{"c"}, 0, "\x01c\x00"}, {api.Name{"b", "c"}, 3, "\x01b\xc0\x00"}, {api.Name{"a", "b", "c"}, 7, "\x01a\xc0\x03"}},
		"names behind the first label":         {{api.Name{"a", "b", "c"}, 20, "\x01a\x01b\x01c\x00"}, {api.Name{"b", "c"}, 27, "\xc0\x16"}, {api.Name{"c"}, 29, "\xc0\x18"}, {api.Name{"a"}, 31, "\x01a\x00"}},
		"no name by its first labels":          {{api.Name{"a", "b", "c"}, 0, "\x01a\x01b\x01c\x00"}, {api.Name{"a", "b"}, 7, "\x01a\x01b\x00"}},
		"no name in the midst":                 {{api.Name{"a", "b", "c"}, 0, "\x01a\x01b\x01c\x00"}, {api.Name{"b"}, 7, "\x01b\x00"}},
		"great and small letters":              {{api.Name{"a", "B"}, 0, "\x01a\x01B\x00"}, {api.Name{"a", "b"}, 5, "\x01a\x01b\x00"}, {api.Name{"A", "B"}, 10, "\x01A\xc0\x02"}, {api.Name{"A", "b"}, 14, "\x01A\xc0\x07"}},
		"labels that hold other ones":          {{api.Name{"a\x01b"}, 0, "\x03a\x01b\x00"}, {api.Name{"a", "b"}, 5, "\x01a\x01b\x00"}, {api.Name{"a.b"}, 10, "\x03a.b\x00"}, {api.Name{"a\x01b"}, 15, "\xc0\x00"}},
		"one label again within a name":        {{api.Name{"a", "a", "a"}, 0, "\x01a\x01a\x01a\x00"}, {api.Name{"a", "a", "a", "a"}, 7, "\x01a\xc0\x00"}, {api.Name{"a"}, 11, "\xc0\x04"}, {api.Name{"a", "a"}, 13, "\xc0\x02"}},
		"each with the offset it had at first": {{api.Name{"a"}, 9, "\x01a\x00"}, {api.Name{"a"}, 90, "\xc0\x09"}, {api.Name{"b", "a"}, 100, "\x01b\xc0\x09"}, {api.Name{"a"}, 3, "\xc0\x09"}, {api.Name{"c", "b", "a"}, 5, "\x01c\xc0\x64"}},
		"offsets that a pointer can't tell":    {{api.Name{"a", "b"}, 0x4000, "\x01a\x01b\x00"}, {api.Name{"a", "b"}, 0x4005, "\x01a\x01b\x00"}, {api.Name{"b"}, 5, "\x01b\x00"}, {api.Name{"a", "b"}, 0x5000, "\x01a\xc0\x05"}, {api.Name{"a", "b"}, 0x5004, "\x01a\xc0\x05"}},
		"the last one that it can":             {{api.Name{"a", "b"}, 0x3fff, "\x01a\x01b\x00"}, {api.Name{"a", "b"}, 0x4004, "\xff\xff"}, {api.Name{"b"}, 0x4006, "\x01b\x00"}},
		"some of a name's":                     {{api.Name{"a", "b", "c"}, 0x3ffd, "\x01a\x01b\x01c\x00"}, {api.Name{"b", "c"}, 0x4004, "\xff\xff"}, {api.Name{"x", "c"}, 0x4006, "\x01x\x01c\x00"}, {api.Name{"a", "b", "c"}, 0x400b, "\xff\xfd"}},
		"below 0":                              {{api.Name{"a", "b"}, -1, "\x01a\x01b\x00"}, {api.Name{"b"}, -2, "\x01b\x00"}, {api.Name{"b"}, 1, "\x01b\x00"}, {api.Name{"a", "b"}, -4, "\x01a\xc0\x01"}, {api.Name{"a", "b"}, 7, "\x01a\xc0\x01"}},
		"as far as numbers go":                 {{api.Name{"a", "b"}, mostInt, "\x01a\x01b\x00"}, {api.Name{"a", "b"}, mostInt - 1, "\x01a\x01b\x00"}, {api.Name{"a", "b"}, leastInt, "\x01a\x01b\x00"}, {api.Name{"b"}, 0, "\x01b\x00"}},
		"a name that stands farther on":        {{api.Name{"a"}, 50, "\x01a\x00"}, {api.Name{"b", "a"}, 0, "\x01b\xc0\x32"}, {api.Name{"a"}, 50, "\xc0\x32"}},
	} {
		b := tables()
		for _, s := range steps {
			if got := b.puts(t, s.n, s.at); got != s.want {
				t.Errorf("%s: Put(%q, %d): %q, want %q", what, s.n, s.at, got, s.want)
			}
		}
	}
}

// Promise 12.1: no table, again and again; and one of its own keeps apart from another one.
func TestNoTable(t *testing.T) {
	var no *Table
	for range 3 {
		if s, e := no.Put(api.Name{"a", "b"}, 0); s != "\x01a\x01b\x00" || e != api.OK {
			t.Errorf("%q, %v", s, e)
		}
	}
	a, b := New(), New()
	a.Put(api.Name{"a", "b"}, 0)
	if s, _ := b.Put(api.Name{"a", "b"}, 0); s != "\x01a\x01b\x00" {
		t.Errorf("%q", s)
	}
	var zero Table
	zero.Put(api.Name{"a", "b"}, 3)
	if s, _ := zero.Put(api.Name{"c", "b"}, 0); s != "\x01c\xc0\x05" {
		t.Errorf("%q", s)
	}
}

// Promise 12.1: names that may not be, told by domain's errors; nothing of them comes into the table.
func TestWrongNames(t *testing.T) {
	for _, c := range []struct {
		n    api.Name
		want api.Errno
	}{
		{api.Name{""}, api.ErrLabel},
		{api.Name{"", "b"}, api.ErrLabel},
		{api.Name{"a", "b", ""}, api.ErrLabel},
		{api.Name{strings.Repeat("x", 64)}, api.ErrLabel},
		{api.Name{"a", strings.Repeat("x", 300), "b"}, api.ErrLabel},
		{long(256, "x"), api.ErrLong},
		{append(long(255, "x"), "b"), api.ErrLong},
		{append(append(api.Name{}, slices.Repeat([]string{"b"}, 127)...), "b"), api.ErrLong},
		{append(long(255, "x"), ""), api.ErrLabel},
	} {
		for _, at := range offsets {
			b := tables()
			if s, e := b.t.Put(c.n, at); s != "" || e != c.want {
				t.Errorf("Put(%.80q, %d): %.80q, %v, want %v", c.n, at, s, e, c.want)
			}
			b.puts(t, c.n, at)
			if s := b.puts(t, api.Name{"b"}, 7); s != "\x01b\x00" {
				t.Errorf("%q", s)
			}
			b.puts(t, c.n, at)
		}
	}
}

// Promise 12.1: two names and a third one, at all offsets, by the labels that they share.
func TestOffsets(t *testing.T) {
	names := []api.Name{nil, {"b"}, {"a", "b"}, {"c", "a", "b"}, {"b", "b"}, {"B"}, {"a", "b", "b"}, long(255, "b"), long(100, "b"), slices.Repeat([]string{"b"}, 127)}
	for _, first := range names {
		for _, second := range names {
			for _, at := range offsets {
				for _, then := range []int{0, 0x3ffe, 0x4000, -1, at} {
					b := tables()
					b.puts(t, first, at)
					b.puts(t, second, then)
					for _, n := range names {
						b.puts(t, n, 9)
					}
				}
			}
		}
	}
}

// Promise 12.2: names as they stand, and what is behind them.
func TestGet(t *testing.T) {
	for _, c := range []struct {
		msg  string
		at   int
		want api.Name
		end  int
	}{
		{"\x00", 0, nil, 1},
		{"\x00more", 0, nil, 1},
		{"\x00\x00", 1, nil, 2},
		{"\x01a\x00", 0, api.Name{"a"}, 3},
		{"\x01a\x01b\x00\xff", 0, api.Name{"a", "b"}, 5},
		{"\x01a\x01b\x00", 2, api.Name{"b"}, 5},
		{"\x01a\x00\xc0\x00", 3, api.Name{"a"}, 5},
		{"\x01a\x00\xc0\x00more", 3, api.Name{"a"}, 5},
		{"\x01a\x00\xc0\x02", 3, nil, 5},
		{"\x01a\x01b\x00\x01c\xc0\x02", 5, api.Name{"c", "b"}, 9},
		{"\x01a\x00\x01b\xc0\x00\x01c\xc0\x03\x00", 7, api.Name{"c", "b", "a"}, 11},
		{"\x01a\x00\xc0\x00\xc0\x03\xc0\x05", 7, api.Name{"a"}, 9},
		{"\x01a\x00\x02\xc0\x00\xc0\x00", 3, api.Name{"\xc0\x00", "a"}, 8},
		{"\x01a\x00\x02\xc0\x00\xc0\x00", 4, api.Name{"a"}, 6},
		{"\x02\x01a\x00\xc0\x01", 4, api.Name{"a"}, 6},
		{"\x02\x01a\x00\xc0\x00", 4, api.Name{"\x01a"}, 6},
		{"\x3f" + strings.Repeat("\x40", 63) + "\x00", 0, api.Name{strings.Repeat("@", 63)}, 65},
		{"\x05\x00.\\\xff\xc0\x00", 0, api.Name{"\x00.\\\xff\xc0"}, 7},
		{strings.Repeat("\x00", 0x3fff) + "\x01a\x00\xff\xff", 0x4002, api.Name{"a"}, 0x4004},
		{strings.Repeat("\x00", 0x3fff) + "\x01a\x00" + strings.Repeat("\x00", 70000) + "\x01b\xff\xff", 0x4002 + 70000, api.Name{"b", "a"}, 0x4002 + 70004},
		{strings.Repeat("\x00", 300) + "\x01a\x00\xc1\x2c", 303, api.Name{"a"}, 305},
	} {
		if n, end, e := gets(t, c.msg, c.at); !slices.Equal(n, c.want) || end != c.end || e != api.OK {
			t.Errorf("Get(%.80q, %d): %q, %d, %v, want %q, %d", c.msg, c.at, n, end, e, c.want, c.end)
		}
	}
}

// Promise 12.2: octets that are no name, and of several errors the first one, octet by octet.
func TestWrongOctets(t *testing.T) {
	full := wire(long(255, "x"))
	for _, c := range []struct {
		msg  string
		at   int
		want api.Errno
	}{
		{"", -1, api.ErrRange},
		{"", 1, api.ErrRange},
		{"", mostInt, api.ErrRange},
		{"\x00", leastInt, api.ErrRange},
		{"\x00", 2, api.ErrRange},
		{"", 0, api.ErrShort},
		{"\x00", 1, api.ErrShort},
		{"\x01", 0, api.ErrShort},
		{"\x01a", 0, api.ErrShort},
		{"\x03ab", 0, api.ErrShort},
		{"\x3f" + strings.Repeat("x", 62), 0, api.ErrShort},
		{"\x40", 0, api.ErrLabel},
		{"\x40" + strings.Repeat("x", 64) + "\x00", 0, api.ErrLabel},
		{"\x7f", 0, api.ErrLabel},
		{"\x80", 0, api.ErrLabel},
		{"\xbf", 0, api.ErrLabel},
		{"\x01a\x40", 0, api.ErrLabel},
		{"\xc0", 0, api.ErrShort},
		{"\xff", 0, api.ErrShort},
		{"\x01a\xc0", 0, api.ErrShort},
		{"\x00\xc0", 1, api.ErrShort},
		{"\xc0\x00", 0, api.ErrPointer},
		{"\xc0\x01", 0, api.ErrPointer},
		{"\xc0\x02\x00", 0, api.ErrPointer},
		{"\xff\xff", 0, api.ErrPointer},
		{"\x00\xc0\x01", 1, api.ErrPointer},
		{"\x00\xc0\x03\x00", 1, api.ErrPointer},
		{"\x00\xc1\x00", 1, api.ErrPointer},
		{"\x01a\xc0\x00", 0, api.ErrPointer},
		{"\x00\x01a\xc0\x01", 1, api.ErrPointer},
		{"\x00\x01a\xc0\x02", 1, api.ErrPointer},
		{"\x00\x01a\xc0\x03", 1, api.ErrPointer},
		// A pointer back to the place where one began, by a pointer that leads ahead of it.
		{"\x01a\xc0\x00", 2, api.ErrPointer},
		{"\x00\x01a\xc0\x01", 3, api.ErrPointer},
		// To where the last pointer led, and behind that.
		{"\x00\x01a\xc0\x01\xc0\x01", 5, api.ErrPointer},
		{"\x00\x01a\xc0\x02\xc0\x01", 5, api.ErrPointer},
		{"\x00\x01a\xc0\x03\xc0\x01", 5, api.ErrPointer},
		// Where a pointer leads, the other errors stand, too.
		{"\x40\xc0\x00", 1, api.ErrLabel},
		{"\x01a\xbf\xc0\x00", 3, api.ErrLabel},
		{"\x03a\xc0\x00", 2, api.ErrShort},
		{"\x01\xc0\xc0\x00", 2, api.ErrPointer},
		{"\x05\x01a\xc0\x00", 3, api.ErrShort},
		// Too long, as soon as a label that is there whole makes it so.
		{full[:len(full)-62] + "\x3e" + strings.Repeat("x", 62), 0, api.ErrLong},
		{full[:len(full)-62] + "\x3e" + strings.Repeat("x", 61), 0, api.ErrShort},
		{full + "\x01x", 0, api.ErrLong},
		{full + "\x01", 0, api.ErrShort},
		{full, 0, api.ErrShort},
		{full + "\x40", 0, api.ErrLabel},
		{full + "\xc0\x00", 0, api.ErrPointer},
		{full + "\xc0", 0, api.ErrShort},
		{full + "\x3f" + strings.Repeat("x", 63) + "\xff\xff", 0, api.ErrLong},
		{strings.Repeat("\x01x", 127) + "\x01x\x00", 0, api.ErrLong},
		{strings.Repeat("\x01x", 127) + "\x01x", 0, api.ErrLong},
		{"\x01a\x00" + full + "\xc0\x00", 3, api.ErrLong},
		{"\x01a\x40" + full + "\xc0\x00", 3, api.ErrLong},
		{"\x40" + full + "\xc0\x00", 1, api.ErrLabel},
		{full + "\x00\x01a\xc0\x00", 255, api.ErrLong},
	} {
		if n, end, e := gets(t, c.msg, c.at); n != nil || end != 0 || e != c.want {
			t.Errorf("Get(%.80q, %d): %q, %d, %v, want %v", c.msg, c.at, n, end, e, c.want)
		}
	}
}

// Promise 12.2: each first octet, with as many octets behind it as there may be.
func TestFirstOctets(t *testing.T) {
	for c := range 256 {
		for behind := range 80 {
			for _, fill := range []string{"\x00", "x", "\x3f", "\xc0"} {
				msg := "\x00" + string([]byte{byte(c)}) + strings.Repeat(fill, behind)
				gets(t, msg, 1)
				gets(t, "\x01a"+msg, 3)
				gets(t, msg+"\x00", 1)
			}
		}
	}
}

// Promise 12.2: each pointer, from each place, in a message of as many octets as it can tell.
func TestPointers(t *testing.T) {
	msg := []byte(strings.Repeat("\x00", 0x4010))
	for _, at := range []int{0, 1, 2, 255, 256, 257, 0x1234, 0x3ffe, 0x3fff, 0x4000, 0x4001, 0x400e} {
		for to := range 0x4000 {
			copy(msg[at:], ptr(to))
			n, end, e := Get(string(msg[:at+2]), at)
			switch {
			case to < at && (len(n) != 0 || end != at+2 || e != api.OK):
				t.Fatalf("from %d to %d: %q, %d, %v", at, to, n, end, e)
			case to >= at && (n != nil || end != 0 || e != api.ErrPointer):
				t.Fatalf("from %d to %d: %q, %d, %v", at, to, n, end, e)
			}
		}
		copy(msg[at:], "\x00\x00")
	}
}

// Promise 12.2: sizes at the edge, in one piece and in two, and by labels of all lengths.
func TestSizes(t *testing.T) {
	for size := 3; size < 300; size++ {
		n := long(size, "x")
		want := api.OK
		if size > 255 {
			want = api.ErrLong
		}
		s := wire(n)
		if len(s)+1 != size {
			t.Fatal(size, len(s))
		}
		if g, end, e := gets(t, s+"\x00", 0); e != want || e == api.OK && (!slices.Equal(g, n) || end != size) {
			t.Errorf("%d: %q, %d, %v", size, g, end, e)
		}
		tables().puts(t, n, 0)
		for i := range n {
			ahead, behind := wire(n[:i]), wire(n[i:])
			msg := behind + "\x00" + ahead + ptr(0) + "more"
			if g, end, e := gets(t, msg, len(behind)+1); e != want || e == api.OK && (!slices.Equal(g, n) || end != len(msg)-4) {
				t.Errorf("%d, in two at %d: %q, %d, %v", size, i, g, end, e)
			}
		}
	}
}

// Promise 12.2 and 12.3: all short texts of octets that matter, at all offsets.
func TestShortTexts(t *testing.T) {
	octets := "\x00\x01\x02\x3f\x40\xbf\xc0\xc1\x03a"
	texts := []string{""}
	for range 5 {
		var more []string
		for _, s := range texts {
			for at := -1; at <= len(s)+1; at++ {
				gets(t, s, at)
			}
			for i := range len(octets) {
				more = append(more, s+octets[i:i+1])
			}
		}
		texts = more
	}
	for _, s := range texts {
		for at := range len(s) + 1 {
			gets(t, s, at)
		}
	}
}

// Promise 12.3: it ends, however many pointers lead on to another one.
func TestChains(t *testing.T) {
	msg := "\x01a\x00"
	last := 0
	for len(msg) < 0x3ffe {
		at := len(msg)
		msg += ptr(last)
		last = at
	}
	if n, end, e := gets(t, msg, last); !slices.Equal(n, api.Name{"a"}) || end != len(msg) || e != api.OK {
		t.Errorf("%q, %d, %v", n, end, e)
	}
	// And where the first one leads to one of the last ones, or each to itself, or all to one.
	for _, to := range []int{0, 3, 5, 1001, last, 0x3fff} {
		gets(t, ptr(to)+msg[2:], last)
		gets(t, msg[:1001]+ptr(to)+msg[1003:], last)
		gets(t, strings.Repeat(ptr(to), 40000), 40001)
		gets(t, strings.Repeat(ptr(to), 40000), 40000)
	}
	for _, c := range []string{"\x00", "\x01", "\x3f", "\x40", "\xc0", "\xff"} {
		for _, at := range []int{0, 1, 2, 0x3fff, 0x4000, 0xffff, 70000} {
			gets(t, strings.Repeat(c, 70000), at)
		}
	}
}

// Promise 12.3: names one behind the other, with a table and without, up to the edge of what a pointer tells and beyond.
func TestUndone(t *testing.T) {
	labels := []string{"a", "b", "A", "\x00", "a.b", "\xc0\x00", "\x01a", strings.Repeat("x", 63), "host"}
	var names []api.Name
	state := uint32(1)
	draw := func(n int) int {
		state = state*1664525 + 1013904223
		return int(state>>16) % n
	}
	for range 400 {
		var n api.Name
		for range draw(7) {
			n = append(n, labels[draw(len(labels))])
		}
		if plainCheck(n) == 0 {
			names = append(names, n)
		}
	}
	names = append(names, long(255, "x"), long(255, "y"), slices.Repeat([]string{"b"}, 127), slices.Repeat([]string{"b"}, 127), nil)
	for _, ahead := range []int{0, 1, 12, 0x3ff0, 0x3ffe, 0x3fff, 0x4000} {
		undone(t, strings.Repeat("\xff", ahead), names)
	}
	// Each place near the edge, for a name and such as share labels with it.
	few := []api.Name{{"a", "b", "c"}, {"b", "c"}, {"a", "b", "c"}, {"x", "c"}, {"c"}, {"a", "b", "c", "c"}, nil}
	for ahead := 0x3ff0; ahead < 0x4010; ahead++ {
		undone(t, strings.Repeat("\xff", ahead), few)
	}
}

// names are some, cut out of a text: each of its bytes tells how long the next label is, or that a name ends.
func names(s string) []api.Name {
	out := []api.Name{nil}
	for s != "" {
		last := len(out) - 1
		n := min(int(s[0])%70, len(s)-1)
		switch {
		case s[0] > 200 && last > 0:
			// A name that was there before, behind this one's labels.
			out[last] = append(out[last], out[int(s[0])%last]...)
			out = append(out, nil)
			s = s[1:]
		case s[0] > 150:
			out = append(out, nil)
			s = s[1:]
		default:
			out[last] = append(out[last], s[1:1+n])
			s = s[1+n:]
		}
	}
	return out
}

// P1: whatever the arguments, every call ends and tells what the plain ways tell.
func FuzzPacked(f *testing.F) {
	f.Add("\x01a\x01b\x00\x01c\xc0\x02", 5, "\x01a\x01b\xc9\x01c\xc9", 0)
	f.Add("\x40\xc0\x00", 1, "\x00\x46xx\xa0", -1)
	f.Add("\xff\xff", -1, "\x01a\xa0\x01b\xca\x01c\xcb\xca", 0x3ffd)
	f.Add("", mostInt, strings.Repeat("\x01x", 130), mostInt)
	f.Fuzz(func(t *testing.T, msg string, at int, text string, from int) {
		gets(t, msg, at)
		for i := range min(len(msg), 100) {
			gets(t, msg, i)
		}
		b := tables()
		var good []api.Name
		for _, n := range names(text) {
			b.puts(t, n, from)
			from += 7
			if plainCheck(n) == 0 {
				good = append(good, n)
			}
		}
		undone(t, msg, good)
		undone(t, strings.Repeat("\xc0", 0x3fff-min(len(text), 40)), good)
	})
}
