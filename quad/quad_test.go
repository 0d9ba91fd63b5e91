package quad

import (
	"fmt"
	"math/big"
	"regexp"
	"strconv"
	"strings"
	"testing"

	"wayfinder/api"
)

// numbers are texts of one to four numbers with dots between, as old programs read them.
var numbers = regexp.MustCompile(`^(0[xX][0-9a-fA-F]+|0[0-7]*|[1-9][0-9]*)(\.(0[xX][0-9a-fA-F]+|0[0-7]*|[1-9][0-9]*)){0,3}$`)

// quads are texts of four bytes in decimal digits, without noughts ahead.
var quads = regexp.MustCompile(`^(25[0-5]|2[0-4][0-9]|1[0-9][0-9]|[1-9]?[0-9])(\.(25[0-5]|2[0-4][0-9]|1[0-9][0-9]|[1-9]?[0-9])){3}$`)

// plainLoose is Loose by another way: by a pattern, and numbers of any size.
func plainLoose(s string) (api.Addr, api.Errno) {
	if !numbers.MatchString(s) {
		return api.Addr{}, api.ErrForm
	}
	l := strings.Split(s, ".")
	whole := new(big.Int)
	for i, p := range l {
		// The library's base 0 takes a nought ahead for the base 8, 0x for the base 16.
		n, _ := new(big.Int).SetString(p, 0)
		bits := 8
		if i == len(l)-1 {
			bits = 8 * (5 - len(l))
		}
		if n.BitLen() > bits {
			return api.Addr{}, api.ErrRange
		}
		whole.Add(whole.Lsh(whole, uint(bits)), n)
	}
	b := whole.FillBytes(make([]byte, 4))
	return api.Addr{Family: 4, IP: [16]byte{b[0], b[1], b[2], b[3]}}, api.OK
}

// plainParse is Parse by another way: by a pattern.
func plainParse(s string) (api.Addr, api.Errno) {
	if !quads.MatchString(s) {
		return api.Addr{}, api.ErrForm
	}
	a := api.Addr{Family: 4}
	for i, p := range strings.Split(s, ".") {
		n, _ := strconv.Atoi(p)
		a.IP[i] = byte(n)
	}
	return a, api.OK
}

// texts are all texts of up to most of some parts.
func texts(most int, parts ...string) []string {
	all := []string{""}
	last := all
	for range most {
		var next []string
		for _, s := range last {
			for _, p := range parts {
				next = append(next, s+p)
			}
		}
		all = append(all, next...)
		last = next
	}
	return all
}

// row is n times a text.
func row(n int, s string) string { return strings.Repeat(s, n) }

// of is the address of Inet with four bytes.
func of(a, b, c, d byte) api.Addr {
	return api.Addr{Family: 4, IP: [16]byte{0: a, 1: b, 2: c, 3: d}}
}

// read holds both readings of a text against the plain ways.
func read(t *testing.T, s string) {
	t.Helper()
	want, wrong := plainLoose(s)
	if a, e := Loose(s); a != want || e != wrong {
		t.Errorf("Loose(%.80q): %v, %v, want %v, %v", s, a, e, want, wrong)
	}
	want, wrong = plainParse(s)
	if a, e := Parse(s); a != want || e != wrong {
		t.Errorf("Parse(%.80q): %v, %v, want %v, %v", s, a, e, want, wrong)
	}
}

// Promise 7.1: an address of Inet, with nothing but its four bytes.
func TestOf(t *testing.T) {
	for _, c := range [][4]byte{{}, {1, 2, 3, 4}, {4, 3, 2, 1}, {255, 255, 255, 255}, {0, 0, 0, 1}, {1, 0, 0, 0}, {127, 0, 0, 128}} {
		want := api.Addr{Family: api.Inet}
		copy(want.IP[:], c[:])
		if got := Of(c[0], c[1], c[2], c[3]); got != want {
			t.Errorf("Of(%v): %v", c, got)
		}
	}
}

// Promise 7.1: of any address, whatever its family and its other bytes.
func TestText(t *testing.T) {
	for _, c := range []struct {
		a    api.Addr
		want string
	}{
		{api.Addr{}, "0.0.0.0"},
		{of(0, 0, 0, 0), "0.0.0.0"},
		{of(1, 2, 3, 4), "1.2.3.4"},
		{of(10, 0, 100, 99), "10.0.100.99"},
		{of(255, 255, 255, 255), "255.255.255.255"},
		{of(192, 0, 2, 53), "192.0.2.53"},
		{api.Addr{Family: api.Any, IP: [16]byte{9, 8, 7, 6}}, "9.8.7.6"},
		{api.Addr{Family: api.Inet6, IP: [16]byte{254, 128, 1, 2, 3, 4, 5, 6}, Zone: 7}, "254.128.1.2"},
		{api.Addr{Family: api.Inet6, IP: [16]byte{15: 1}}, "0.0.0.0"},
		{api.Addr{Family: api.Inet, IP: [16]byte{1, 2, 3, 4, 5}, Zone: 6}, "1.2.3.4"},
		{api.Addr{Family: -1, IP: [16]byte{1, 2, 3, 4}, Zone: -1}, "1.2.3.4"},
	} {
		if got := Text(c.a); got != c.want {
			t.Errorf("Text(%v): %q, want %q", c.a, got, c.want)
		}
	}
}

// Promise 7.1, and example 1.
func TestParse(t *testing.T) {
	for _, c := range []struct {
		s    string
		want api.Addr
	}{
		{"0.0.0.0", of(0, 0, 0, 0)},
		{"1.2.3.4", of(1, 2, 3, 4)},
		{"9.10.99.100", of(9, 10, 99, 100)},
		{"127.0.0.1", of(127, 0, 0, 1)},
		{"192.0.2.255", of(192, 0, 2, 255)},
		{"255.255.255.255", of(255, 255, 255, 255)},
	} {
		if a, e := Parse(c.s); a != c.want || e != api.OK {
			t.Errorf("Parse(%q): %v, %v", c.s, a, e)
		}
		read(t, c.s)
	}
	for _, s := range []string{
		"", ".", "...", "....", "1", "127.1", "1.2.3", "1.2.772", "1.2.3.4.5", "1.2.3.4.", ".1.2.3.4", "1..3.4", "1.2.3.", ".2.3.4", "1.2.3..4",
		"01.2.3.4", "1.2.3.04", "00.0.0.0", "0.0.0.00", "1.2.3.010", "1.2.3.08",
		"256.2.3.4", "1.2.3.256", "1.256.3.4", "1.2.3.300", "1.2.3.1000", "1.2.3.4294967297", "1.2.3." + row(1000, "9"),
		"0x1.2.3.4", "1.2.3.0x4", "0x7f000001", "a.2.3.4", "1.2.3.a", "1.2.3.ff",
		"+1.2.3.4", "-1.2.3.4", "1.2.3.+4", "1.2.3.-0", " 1.2.3.4", "1.2.3.4 ", "1. 2.3.4", "1.2.3.4\n", "1.2.3.4\x00", "1,2,3,4", "1.2.3.4/8", "1.2.3.4%1",
		"1\u30022.3.4", "\u0661.2.3.4", "1.2.3.\uff14", "1.2.3.\xff", "::1", "::1.2.3.4", "one",
	} {
		if a, e := Parse(s); a != (api.Addr{}) || e != api.ErrForm {
			t.Errorf("Parse(%.80q): %v, %v", s, a, e)
		}
		read(t, s)
	}
}

// Promise 7.2, and example 1.
func TestLoose(t *testing.T) {
	for _, c := range []struct {
		s    string
		want api.Addr
	}{
		{"127.1", of(127, 0, 0, 1)},
		{"0x7f000001", of(127, 0, 0, 1)},
		{"0X7F000001", of(127, 0, 0, 1)},
		{"2130706433", of(127, 0, 0, 1)},
		{"017700000001", of(127, 0, 0, 1)},
		{"0", of(0, 0, 0, 0)}, {"00", of(0, 0, 0, 0)}, {"0x0", of(0, 0, 0, 0)}, {"0.0", of(0, 0, 0, 0)}, {"0.0.0.0", of(0, 0, 0, 0)},
		{"1", of(0, 0, 0, 1)}, {"256", of(0, 0, 1, 0)}, {"65536", of(0, 1, 0, 0)}, {"16777216", of(1, 0, 0, 0)},
		{"1.2", of(1, 0, 0, 2)}, {"1.256", of(1, 0, 1, 0)}, {"1.131844", of(1, 2, 3, 4)},
		{"1.2.3", of(1, 2, 0, 3)}, {"1.2.772", of(1, 2, 3, 4)},
		{"1.2.3.4", of(1, 2, 3, 4)},
		// The greatest of each.
		{"4294967295", of(255, 255, 255, 255)}, {"0xffffffff", of(255, 255, 255, 255)}, {"037777777777", of(255, 255, 255, 255)},
		{"255.16777215", of(255, 255, 255, 255)}, {"255.255.65535", of(255, 255, 255, 255)}, {"255.255.255.255", of(255, 255, 255, 255)},
		{"0xff.0377.255.0XfF", of(255, 255, 255, 255)},
		// What number a part is hangs on what it begins with.
		{"010.0.0.0x1", of(8, 0, 0, 1)}, {"10.010.0x10.16", of(10, 8, 16, 16)}, {"07.017.0x0a.0Xa", of(7, 15, 10, 10)},
		{"0xaB.0xCd.0xEf.0x09", of(0xab, 0xcd, 0xef, 9)},
		// Any many noughts, which don't make a number greater.
		{row(1000, "0"), of(0, 0, 0, 0)}, {row(1000, "0") + "17", of(0, 0, 0, 15)}, {"0x" + row(1000, "0") + "17", of(0, 0, 0, 23)},
		{row(40, "0") + "377.0x" + row(40, "0") + "ff.1", of(255, 255, 0, 1)},
	} {
		if a, e := Loose(c.s); a != c.want || e != api.OK {
			t.Errorf("Loose(%.80q): %v, %v, want %v", c.s, a, e, c.want)
		}
		read(t, c.s)
	}
}

// Promise 7.2: what is no such text.
func TestLooseForm(t *testing.T) {
	for _, s := range []string{
		"", ".", "..", "...", "....", "1.", ".1", "1..2", "1.2.", "1.2.3.", "1.2.3.4.", ".1.2.3.4", "1.2.3.4.5", "0.0.0.0.0", row(1000, "1."), row(1000, "."),
		"0x", "0X", "0x.1", "1.0x", "0xg", "0x1g", "0xx1", "00x1", "x1", "0 x1", "1x2", "f", "ff", "1f", "1a.2", "0f",
		"08", "09", "018", "0778", "1.2.3.09", "1.08", "089.1",
		"+1", "-1", "1.-2", "0x-1", "0x+1", "0+7", "0o7", "0b1", "1_000", "0x_1", "0_7", "1e3", "1 ", " 1", "1 .2", "1. 2", "1\n", "1\x00", "1,2", "1/8", "1%2", "1:2", "::",
		"\u0661", "1.\uff12", "1\u30022", "\xff", "0x\xff", "localhost", "a.b.c.d",
		// The form goes ahead of how great a number is, wherever both are wrong.
		"256.x", "256.", "256.1.", ".256", "256.1.1.1.1", "1.2.3.4.256", "4294967296.x", "x.256", "256.09", row(1000, "9") + "x", row(1000, "9") + "..1", "0x" + row(1000, "f") + "g", row(1000, "0") + row(1000, "7") + "8",
	} {
		if a, e := Loose(s); a != (api.Addr{}) || e != api.ErrForm {
			t.Errorf("Loose(%.80q): %v, %v", s, a, e)
		}
		read(t, s)
	}
}

// Promise 7.2: a number that is too great for its bytes.
func TestLooseRange(t *testing.T) {
	for _, s := range []string{
		"4294967296", "0x100000000", "040000000000", "4294967297", "0x1ffffffff",
		"1.16777216", "1.0x1000000", "1.0100000000", "1.4294967295", "1.2.65536", "1.2.0x10000", "1.2.0200000", "1.2.3.256", "1.2.3.0x100", "1.2.3.0400",
		"256.1", "0x100.1", "0400.1", "256.1.1", "1.256.1", "256.1.1.1", "1.256.1.1", "1.1.256.1", "256.0", "1.300.0.0", "65536.0", "4294967296.0", "4294967295.1",
		// So great that a number of 32 or 64 bits would wrap round.
		"4294967296.4294967296", "18446744073709551616", "18446744073709551617", "36893488147419103232", "0x10000000000000000", "0x10000000000000001", "02000000000000000000000", "18446744073709551616.1", "1.18446744073709551616", "1.2.3.18446744073709551617", "1.4294967296.1",
		row(1000, "9"), "1" + row(1000, "0"), "0x1" + row(1000, "0"), "01" + row(1000, "0"), "1.2.3." + row(1000, "9"), row(1000, "9") + ".2.3.4",
		row(1000, "0") + "400.1",
	} {
		if a, e := Loose(s); a != (api.Addr{}) || e != api.ErrRange {
			t.Errorf("Loose(%.80q): %v, %v", s, a, e)
		}
		read(t, s)
	}
}

// Promises 7.1 and 7.2: each byte, alone, within a number of each base, and in place of a dot.
func TestBytes(t *testing.T) {
	for b := range 256 {
		s := string([]byte{byte(b)})
		for _, c := range []string{s, s + "1", "1" + s, "0" + s, "0" + s + "1", "0x" + s, "0x1" + s, "0X" + s + "f", "1" + s + "2", "1.2.3." + s, s + ".2.3.4", "1.2" + s + "3.4", "1.2.3.4" + s, s + "1.2.3.4"} {
			read(t, c)
		}
	}
}

// Promises 7.1 and 7.2: all short texts, and all rows of parts at the edges.
func TestShortTexts(t *testing.T) {
	for _, s := range texts(6, "0", "1", "9", "x", ".", "f") {
		read(t, s)
	}
	for _, s := range texts(7, "0", "7", "256", ".") {
		read(t, s)
	}
	parts := []string{"", "0", "1", "255", "256", "0377", "0400", "0xff", "0x100", "65535", "65536", "16777215", "16777216", "4294967295", "4294967296", "08", "x"}
	for most := 1; most <= 4; most++ {
		for _, s := range rows(parts, most) {
			read(t, s)
		}
	}
}

// rows are all rows of n parts, with dots between.
func rows(parts []string, n int) []string {
	all := parts
	for range n - 1 {
		var next []string
		for _, s := range all {
			for _, p := range parts {
				next = append(next, s+"."+p)
			}
		}
		all = next
	}
	return all
}

// undone tells whether an address of Inet is read as it was, by both readings.
func undone(t *testing.T, a api.Addr) {
	t.Helper()
	s := Text(a)
	if got, e := Parse(s); got != a || e != api.OK {
		t.Errorf("Parse(%q): %v, %v", s, got, e)
	}
	if got, e := Loose(s); got != a || e != api.OK {
		t.Errorf("Loose(%q): %v, %v", s, got, e)
	}
}

// Promise 7.3: what is written is read as it was: each byte at each place, and all rows of edges.
func TestUndone(t *testing.T) {
	for b := range 256 {
		c := byte(b)
		for _, a := range []api.Addr{Of(c, 1, 2, 3), Of(1, c, 2, 3), Of(1, 2, c, 3), Of(1, 2, 3, c), Of(c, c, c, c), Of(c, 0, 255, 255-c)} {
			undone(t, a)
		}
	}
	edges := []byte{0, 1, 7, 8, 9, 10, 63, 64, 99, 100, 127, 128, 199, 200, 249, 250, 255}
	for _, a := range edges {
		for _, b := range edges {
			for _, c := range edges {
				for _, d := range edges {
					undone(t, Of(a, b, c, d))
				}
			}
		}
	}
}

// Promise 7.3: what Parse reads, Loose reads as the same; a nought ahead of a byte's digits parts them.
func TestBothReadings(t *testing.T) {
	for _, s := range texts(7, "0", "10", "9", ".") {
		a, e := Parse(s)
		if e != api.OK {
			continue
		}
		if got, e := Loose(s); got != a || e != api.OK {
			t.Errorf("%q: %v by Parse, %v, %v by Loose", s, a, got, e)
		}
	}
	for n := range 256 {
		s := fmt.Sprintf("0%d.2.3.4", n)
		if _, e := Parse(s); e != api.ErrForm {
			t.Errorf("Parse(%q): %v", s, e)
		}
		read(t, s)
	}
}

// P1: whatever the arguments, every call ends and tells what the plain ways tell.
func FuzzQuad(f *testing.F) {
	for _, s := range []string{"", ".", "1.2.3.4", "127.1", "0x7f000001", "017.0Xff.65535", "4294967296", "08", "1.2.3.4.5", "256.x", row(30, "9"), "\xff"} {
		f.Add(s, []byte(s), 4, 0)
	}
	f.Fuzz(func(t *testing.T, s string, b []byte, family, zone int) {
		read(t, s)
		a := api.Addr{Family: family, Zone: zone}
		copy(a.IP[:], b)
		want := fmt.Sprintf("%d.%d.%d.%d", a.IP[0], a.IP[1], a.IP[2], a.IP[3])
		if got := Text(a); got != want {
			t.Errorf("Text(%v): %q", a, got)
		}
		undone(t, Of(a.IP[0], a.IP[1], a.IP[2], a.IP[3]))
	})
}
