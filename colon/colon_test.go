package colon

import (
	"encoding/hex"
	"fmt"
	"net/netip"
	"regexp"
	"strconv"
	"strings"
	"testing"

	"wayfinder/api"
)

// most is the greatest zone that may be.
const most = 1<<31 - 1

// heads are the texts that may stand ahead of a %, once an address of Inet at the end is two groups.
var heads = regexp.MustCompile(`^[0-9a-fA-F]{1,4}(:[0-9a-fA-F]{1,4}){7}$`)

// quads are addresses of Inet at the end of a text, behind a colon.
var quads = regexp.MustCompile(`:(25[0-5]|2[0-4][0-9]|1[0-9][0-9]|[1-9]?[0-9])\.(25[0-5]|2[0-4][0-9]|1[0-9][0-9]|[1-9]?[0-9])\.(25[0-5]|2[0-4][0-9]|1[0-9][0-9]|[1-9]?[0-9])\.(25[0-5]|2[0-4][0-9]|1[0-9][0-9]|[1-9]?[0-9])$`)

// numbers are texts of digits.
var numbers = regexp.MustCompile(`^[0-9]+$`)

// plainHead is what stands ahead of a %, by another way: all is written out in full, with any number of groups 0 in the place of two colons, and what fits one pattern then is an address.
func plainHead(s string) ([16]byte, bool) {
	if m := quads.FindStringSubmatch(s); m != nil {
		var b [4]int
		for i := range b {
			b[i], _ = strconv.Atoi(m[i+1])
		}
		s = strings.TrimSuffix(s, m[0]) + fmt.Sprintf(":%x:%x", b[0]<<8|b[1], b[2]<<8|b[3])
	}
	full := []string{s}
	if front, back, ok := strings.Cut(s, "::"); ok {
		full = nil
		for n := 1; n <= 8; n++ {
			l := "0" + row(n-1, ":0")
			if front != "" {
				l = front + ":" + l
			}
			if back != "" {
				l += ":" + back
			}
			full = append(full, l)
		}
	}
	for _, f := range full {
		if heads.MatchString(f) {
			return plainBytes(f), true
		}
	}
	return [16]byte{}, false
}

// plainBytes are the bytes of eight groups that are written out.
func plainBytes(s string) [16]byte {
	digits := ""
	for _, g := range strings.Split(s, ":") {
		digits += row(4-len(g), "0") + g
	}
	b, _ := hex.DecodeString(digits)
	return [16]byte(b)
}

// plainParse is Parse by another way.
func plainParse(s string) (api.Addr, api.Errno) {
	at := strings.Index(s, "%")
	head := s
	if at >= 0 {
		head = s[:at]
	}
	ip, ok := plainHead(head)
	if !ok {
		return api.Addr{}, api.ErrForm
	}
	a := api.Addr{Family: 6, IP: ip}
	if at < 0 {
		return a, api.OK
	}
	if !numbers.MatchString(s[at+1:]) {
		return api.Addr{}, api.ErrForm
	}
	n, err := strconv.ParseUint(s[at+1:], 10, 31)
	if err != nil || n == 0 {
		return api.Addr{}, api.ErrRange
	}
	a.Zone = int(n)
	return a, api.OK
}

// plainText is Text by another way: the library's.
func plainText(a api.Addr) string {
	s := netip.AddrFrom16(a.IP).String()
	if a.Zone > 0 {
		s = fmt.Sprintf("%s%%%d", s, a.Zone)
	}
	return s
}

// texts are all texts of up to most of some parts.
func texts(most int, parts ...string) []string {
	all := []string{""}
	last := all
	for range most {
		var next []string
		for _, s := range last {
			for _, p := range parts {
				next = append(next, s+p)
			}
		}
		all = append(all, next...)
		last = next
	}
	return all
}

// row is n times a text.
func row(n int, s string) string { return strings.Repeat(s, n) }

// of is the address of Inet6 with eight groups.
func of(g ...int) api.Addr {
	a := api.Addr{Family: 6}
	for i, v := range g {
		a.IP[2*i], a.IP[2*i+1] = byte(v>>8), byte(v)
	}
	return a
}

// in is an address in a zone.
func in(zone int, a api.Addr) api.Addr {
	a.Zone = zone
	return a
}

// read holds the reading of a text against the plain way, and what stands ahead of a % against the library's too.
func read(t *testing.T, s string) {
	t.Helper()
	want, wrong := plainParse(s)
	if a, e := Parse(s); a != want || e != wrong {
		t.Errorf("Parse(%.80q): %v, %v, want %v, %v", s, a, e, want, wrong)
	}
	head, _, zoned := strings.Cut(s, "%")
	p, err := netip.ParseAddr(head)
	if ok := err == nil && p.Is6(); !zoned && ok != (wrong == api.OK) || ok && wrong == api.OK && p.As16() != want.IP {
		t.Errorf("the plain way of Parse(%.80q): %v, %v, by the library %v, %v", s, want, wrong, p, err)
	}
}

// wrote holds the writing of an address against the plain way.
func wrote(t *testing.T, a api.Addr) {
	t.Helper()
	if got, want := Text(a), plainText(a); got != want {
		t.Errorf("Text(%v): %q, want %q", a, got, want)
	}
}

// Promise 8.1, and example 1.
func TestText(t *testing.T) {
	for _, c := range []struct {
		a    api.Addr
		want string
	}{
		{of(0x2001, 0xdb8, 0, 0, 1, 0, 0, 1), "2001:db8::1:0:0:1"},
		{of(0, 0, 0, 0, 0, 0, 0, 0), "::"},
		{of(0, 0, 0, 0, 0, 0, 0, 1), "::1"},
		{of(1, 0, 0, 0, 0, 0, 0, 0), "1::"},
		{of(1, 0, 0, 0, 0, 0, 0, 1), "1::1"},
		{of(1, 2, 3, 4, 5, 6, 7, 8), "1:2:3:4:5:6:7:8"},
		// Small digits, without noughts ahead.
		{of(0xabcd, 0xef01, 0x2345, 0x6789, 0xffff, 0x10, 0x100, 0x1000), "abcd:ef01:2345:6789:ffff:10:100:1000"},
		{of(0xa, 0xb0, 0xc00, 0xd000, 0xe, 0xf, 0x0a0b, 0x000a), "a:b0:c00:d000:e:f:a0b:a"},
		// A group 0 alone is one, wherever it stands.
		{of(0, 2, 3, 4, 5, 6, 7, 8), "0:2:3:4:5:6:7:8"},
		{of(1, 2, 3, 0, 5, 6, 7, 8), "1:2:3:0:5:6:7:8"},
		{of(1, 2, 3, 4, 5, 6, 7, 0), "1:2:3:4:5:6:7:0"},
		{of(0, 2, 0, 4, 0, 6, 0, 8), "0:2:0:4:0:6:0:8"},
		// Two are a row.
		{of(0, 0, 3, 4, 5, 6, 7, 8), "::3:4:5:6:7:8"},
		{of(1, 2, 0, 0, 5, 6, 7, 8), "1:2::5:6:7:8"},
		{of(1, 2, 3, 4, 5, 6, 0, 0), "1:2:3:4:5:6::"},
		// The longest row, and of like ones the first.
		{of(0, 0, 3, 0, 0, 0, 7, 8), "0:0:3::7:8"},
		{of(0, 0, 0, 4, 0, 0, 7, 8), "::4:0:0:7:8"},
		{of(0, 0, 0, 4, 5, 0, 0, 0), "::4:5:0:0:0"},
		{of(1, 0, 0, 0, 5, 0, 0, 0), "1::5:0:0:0"},
		{of(0, 0, 3, 4, 0, 0, 0, 0), "0:0:3:4::"},
		{of(1, 0, 0, 4, 0, 0, 7, 8), "1::4:0:0:7:8"},
		{of(0, 0, 3, 0, 0, 6, 0, 0), "::3:0:0:6:0:0"},
		{of(1, 0, 3, 0, 0, 6, 7, 0), "1:0:3::6:7:0"},
		// The last four bytes in decimal digits, behind ffff alone.
		{of(0, 0, 0, 0, 0, 0xffff, 0x0102, 0x0304), "::ffff:1.2.3.4"},
		{of(0, 0, 0, 0, 0, 0xffff, 0xc000, 0x0201), "::ffff:192.0.2.1"},
		{of(0, 0, 0, 0, 0, 0xffff, 0, 0), "::ffff:0.0.0.0"},
		{of(0, 0, 0, 0, 0, 0xffff, 0xffff, 0xffff), "::ffff:255.255.255.255"},
		{of(0, 0, 0, 0, 0, 0xfffe, 0x0102, 0x0304), "::fffe:102:304"},
		{of(0, 0, 0, 0, 0, 0xff, 0x0102, 0x0304), "::ff:102:304"},
		{of(0, 0, 0, 0, 0, 0xff00, 0x0102, 0x0304), "::ff00:102:304"},
		{of(0, 0, 0, 0, 0, 0, 0x0102, 0x0304), "::102:304"},
		{of(0, 0, 0, 0, 0xffff, 0, 0x0102, 0x0304), "::ffff:0:102:304"},
		{of(0, 0, 0, 0, 1, 0xffff, 0x0102, 0x0304), "::1:ffff:102:304"},
		{of(1, 0, 0, 0, 0, 0xffff, 0x0102, 0x0304), "1::ffff:102:304"},
		{of(0x64, 0xff9b, 0, 0, 0, 0, 0xc000, 0x221), "64:ff9b::c000:221"},
		// A zone above 0, behind either writing.
		{in(3, of(0xfe80, 0, 0, 0, 0, 0, 0, 1)), "fe80::1%3"},
		{in(1, of(0, 0, 0, 0, 0, 0xffff, 0x0102, 0x0304)), "::ffff:1.2.3.4%1"},
		{in(10, of(0, 0, 0, 0, 0, 0, 0, 0)), "::%10"},
		{in(most, of(1, 2, 3, 4, 5, 6, 7, 8)), "1:2:3:4:5:6:7:8%2147483647"},
		{in(0, of(1)), "1::"},
		{in(-1, of(1)), "1::"},
		{in(-1<<63, of(1)), "1::"},
		{in(1<<63-1, of(1)), "1::%9223372036854775807"},
		// Of any address, whatever its family.
		{api.Addr{}, "::"},
		{api.Addr{Family: api.Inet, IP: [16]byte{1, 2, 3, 4}}, "102:304::"},
		{api.Addr{Family: api.Inet, IP: [16]byte{1, 2, 3, 4}, Zone: 5}, "102:304::%5"},
		{api.Addr{Family: -1, IP: [16]byte{15: 1}}, "::1"},
	} {
		if got := Text(c.a); got != c.want {
			t.Errorf("Text(%v): %q, want %q", c.a, got, c.want)
		}
		wrote(t, c.a)
	}
}

// Promise 8.2, and example 1.
func TestParse(t *testing.T) {
	all := of(1, 2, 3, 4, 5, 6, 7, 8)
	for _, c := range []struct {
		s    string
		want api.Addr
	}{
		{"::FFFF:192.0.2.1", of(0, 0, 0, 0, 0, 0xffff, 0xc000, 0x0201)},
		{"2001:db8:0:0:1:0:0:1", of(0x2001, 0xdb8, 0, 0, 1, 0, 0, 1)},
		{"1:2:3:4:5:6:7:8", all},
		{"0001:002:03:4:0005:006:07:8", all},
		{"aBcD:Ef01:2345:6789:ffff:FFFF:0000:0aA0", of(0xabcd, 0xef01, 0x2345, 0x6789, 0xffff, 0xffff, 0, 0xaa0)},
		{"0:0:0:0:0:0:0:0", of()},
		// Two colons, wherever, for one group or more of them.
		{"::", of()},
		{"::8", of(0, 0, 0, 0, 0, 0, 0, 8)}, {"1::", of(1)}, {"1::8", of(1, 0, 0, 0, 0, 0, 0, 8)},
		{"::2:3:4:5:6:7:8", of(0, 2, 3, 4, 5, 6, 7, 8)}, {"1::3:4:5:6:7:8", of(1, 0, 3, 4, 5, 6, 7, 8)}, {"1:2:3:4:5:6::8", of(1, 2, 3, 4, 5, 6, 0, 8)}, {"1:2:3:4:5:6:7::", of(1, 2, 3, 4, 5, 6, 7, 0)},
		{"::3:4:5:6:7:8", of(0, 0, 3, 4, 5, 6, 7, 8)}, {"1:2:3:4:5:6::", of(1, 2, 3, 4, 5, 6, 0, 0)}, {"1:2:3::6:7:8", of(1, 2, 3, 0, 0, 6, 7, 8)},
		// They needn't stand for all groups 0, nor for the longest row, nor for the first.
		{"::0", of()}, {"0::", of()}, {"0::0", of()}, {"0:0::0:0", of()}, {"1:0:0:0::5:6:7", of(1, 0, 0, 0, 0, 5, 6, 7)}, {"0:0:3:4:5::8", of(0, 0, 3, 4, 5, 0, 0, 8)},
		// The last two groups, as an address of Inet.
		{"1:2:3:4:5:6:0.7.0.8", all},
		{"::1.2.3.4", of(0, 0, 0, 0, 0, 0, 0x0102, 0x0304)},
		{"::255.255.255.255", of(0, 0, 0, 0, 0, 0, 0xffff, 0xffff)},
		{"::0.0.0.0", of()},
		{"1::1.2.3.4", of(1, 0, 0, 0, 0, 0, 0x0102, 0x0304)},
		{"1::6:1.2.3.4", of(1, 0, 0, 0, 0, 6, 0x0102, 0x0304)},
		{"1:2:3:4:5::1.2.3.4", of(1, 2, 3, 4, 5, 0, 0x0102, 0x0304)},
		{"::2:3:4:5:6:1.2.3.4", of(0, 2, 3, 4, 5, 6, 0x0102, 0x0304)},
		{"64:ff9b::192.0.2.33", of(0x64, 0xff9b, 0, 0, 0, 0, 0xc000, 0x221)},
		// Zones.
		{"fe80::1%3", in(3, of(0xfe80, 0, 0, 0, 0, 0, 0, 1))},
		{"::%1", in(1, of())},
		{"::%2147483647", in(most, of())},
		{"::%" + row(1000, "0") + "10", in(10, of())},
		{"::1.2.3.4%9", in(9, of(0, 0, 0, 0, 0, 0, 0x0102, 0x0304))},
		{"1:2:3:4:5:6:7:8%08", in(8, all)},
	} {
		if a, e := Parse(c.s); a != c.want || e != api.OK {
			t.Errorf("Parse(%.80q): %v, %v, want %v", c.s, a, e, c.want)
		}
		read(t, c.s)
	}
}

// Promise 8.2: what is no address.
func TestParseForm(t *testing.T) {
	for _, s := range []string{
		"", ":", ":::", "::::", "1", "1:", ":1", "1:2:3:4:5:6:7", "1:2:3:4:5:6:7:8:9", ":1:2:3:4:5:6:7:8", "1:2:3:4:5:6:7:8:", ":2:3:4:5:6:7:8", "1:2:3:4:5:6:7:",
		// Two colons once, for one group at least, and never three.
		"::1::", "1::2::3", "::1::2", "1::2::", ":::1", "1:::", "1:::2", "::1:", ":1::", "::1:2:", ":1::2",
		"1:2:3:4:5:6:7:8::", "::1:2:3:4:5:6:7:8", "1:2:3:4::5:6:7:8", "1::2:3:4:5:6:7:8", "1:2:3:4:5:6:7::8", "1:2:3:4:5:6:7:8::9", "1:2:3:4:5:6:7:8:9::", "::1:2:3:4:5:6:7:8:9",
		// Groups of no digits, too many, or others.
		"12345::", "::12345", "1::00001", "00000::", "10000:2:3:4:5:6:7:8", "g::", "::g", "1:2:3:x:5:6:7:8", "::0x1", "0x1::", "::-1", "::+1", " ::", ":: ", ":: 1", "::1\n", "::1\x00", "\t::1", "::1 %1", "[::1]", "::1/64", "::\uff11", "::\xff", "\xff::", "\u0661::",
		// An address of Inet at the end, and nowhere else, in the place of two groups, as Parse of quad reads it.
		"1.2.3.4", "1.2.3.4::", "1.2.3.4::1", "::1.2.3.4:5", "1.2.3.4:5:6:7:8:9:a", "1:2:3:4:5:6:7:1.2.3.4", "1:2:3:4:5:1.2.3.4", "1:2:3:4:5:6::1.2.3.4", "1:2:3:4:5:6:7::1.2.3.4", "::2:3:4:5:6:7:1.2.3.4", "::1.2.3.4::", "::1.2.3.4:", ":1.2.3.4", "1:1.2.3.4", "1:2:3:4:5:6:1.2.3.4:8", "1:2:3:4:5:6:1.2.3.4:", "1:1.2.3.4::",
		"::1.2.3", "::1.2.3.4.5", "::256.2.3.4", "::1.2.3.256", "::01.2.3.4", "::1.2.3.04", "::0x1.2.3.4", "::127.1", "::1.2.3.", "::.1.2.3", "::a.b.c.d", "::1.2.3.4 ", "::1:.2.3.4", "::1..2.3",
		"localhost", "a:b", "ffff", "::ffff:", row(1000, ":"), row(1000, "1:"), row(1000, ":1"), row(1000, "1"), row(1000, "::1"),
		// A zone of no digits.
		"::1%", "::1%%", "::1%%1", "::1%1%", "::1%1%2", "::1%eth0", "::1%-1", "::1%+1", "::1% 1", "::1%1 ", "::1%0x1", "::1%a", "::1%1.", "::1%\u0661", "::1%\xff", "::1%" + row(1000, "9") + "x", "::1%0x", "::1%0%", "::1%:",
		// What stands ahead goes first, wherever both are wrong.
		"%", "%1", "%0", "%x", "1%0", "1.2.3.4%1", ":::%0", "1:2:3:4:5:6:7%2147483648", "g::%0", "1::2::3%" + row(1000, "9"),
	} {
		if a, e := Parse(s); a != (api.Addr{}) || e != api.ErrForm {
			t.Errorf("Parse(%.80q): %v, %v", s, a, e)
		}
		read(t, s)
	}
}

// Promise 8.2: a zone that is too great, or none.
func TestParseRange(t *testing.T) {
	for _, s := range []string{
		"::1%0", "::%0", "::1%00", "::1%" + row(1000, "0"), "::1.2.3.4%0",
		"::1%2147483648", "::1%2147483649", "::1%3000000000", "::1%4294967296", "::1%4294967297", "::1%9223372036854775808", "::1%18446744073709551616", "::1%18446744073709551617",
		"::1%" + row(1000, "9"), "::1%1" + row(1000, "0"), "::1%000002147483648", "1:2:3:4:5:6:7:8%99999999999",
	} {
		if a, e := Parse(s); a != (api.Addr{}) || e != api.ErrRange {
			t.Errorf("Parse(%.80q): %v, %v", s, a, e)
		}
		read(t, s)
	}
}

// Promise 8.2: each byte, alone, within a group, an address of Inet or a zone, and in place of a colon.
func TestBytes(t *testing.T) {
	for b := range 256 {
		s := string([]byte{byte(b)})
		for _, c := range []string{
			s, s + "::", "::" + s, "::1" + s, "::" + s + "1", s + "::1", "::" + s + "::", "::ab" + s + "c", "::abcd" + s, ":" + s + ":",
			"1:2:3" + s + "4:5:6:7:8", "1:2:3:4:5:6:7" + s + "8", "1:2:3:" + s + ":5:6:7:8", "1:2:3:4:5:6:7:" + s, s + ":2:3:4:5:6:7:8", s + "1:2:3:4:5:6:7:8", "1:2:3:4:5:6:7:8" + s,
			"::1.2.3" + s + "4", "::1.2.3." + s, "::" + s + ".2.3.4", "::1.2.3.4" + s, "::1" + s + "2.3.4.5",
			"::%" + s, "::%1" + s, "::%" + s + "1", "::" + s + "1%1", "::" + s + "1",
		} {
			read(t, c)
		}
	}
}

// Promise 8.2: all short texts, and all short rows of parts at the edges.
func TestShortTexts(t *testing.T) {
	for _, s := range texts(6, "0", "1", "f", ":", "%", ".") {
		read(t, s)
	}
	for _, s := range texts(5, ":", "::", "1", "1:2:3", "ffff", "00000", "1.2.3.4", "%", "0") {
		read(t, s)
	}
	for _, s := range texts(10, ":", "1:", "::") {
		read(t, s)
		read(t, s+"1")
		read(t, s+"1.2.3.4")
	}
	zones := []string{"", "0", "1", "01", "2147483647", "2147483648", "x", "1%1"}
	for _, s := range texts(4, ":", "1:2:3:4:5:6:7", "8", "::1", "1.2.3.4") {
		for _, z := range zones {
			read(t, s+"%"+z)
		}
	}
}

// edges are all rows of eight of some groups.
func edges(groups ...int) []api.Addr {
	all := []api.Addr{{Family: 6}}
	for i := range 8 {
		var next []api.Addr
		for _, a := range all {
			for _, g := range groups {
				a.IP[2*i], a.IP[2*i+1] = byte(g>>8), byte(g)
				next = append(next, a)
			}
		}
		all = next
	}
	return all
}

// undone tells whether an address of Inet6 is read as it was.
func undone(t *testing.T, a api.Addr) {
	t.Helper()
	s := Text(a)
	if got, e := Parse(s); got != a || e != api.OK {
		t.Errorf("Parse(%q): %v, %v, want %v", s, got, e, a)
	}
}

// Promises 8.1 and 8.3: all rows of groups at the edges, and each number as each group.
func TestUndone(t *testing.T) {
	for _, a := range append(edges(0, 1, 0xffff), edges(0, 0xabcd)...) {
		wrote(t, a)
		undone(t, a)
	}
	for n := range 1 << 16 {
		for _, a := range []api.Addr{of(n), of(1, n, 1), of(0, 0, 0, 0, 0, n, 1, 2), of(0, 0, 0, 0, n, 0xffff, 1, 2), of(0, 0, 0, 0, 0, 0xffff, n, 2), of(9, 8, 7, 6, 5, 4, 3, n), of(n, n, n, n, n, n, n, n)} {
			wrote(t, a)
			undone(t, a)
		}
	}
	for _, zone := range []int{0, 1, 2, 9, 10, 99, 100, 65535, 65536, most - 1, most} {
		for _, a := range edges(0, 0xffff) {
			wrote(t, in(zone, a))
			undone(t, in(zone, a))
		}
	}
}

// P1: whatever the arguments, every call ends and tells what the plain ways tell.
func FuzzColon(f *testing.F) {
	for _, s := range []string{"", ":", "::", ":::", "1:2:3:4:5:6:7:8", "1:2:3:4:5:6:7::", "::FFFF:192.0.2.1", "fe80::1%3", "::%0", "::%2147483648", "1::2::3", "1:2:3:4:5:6:1.2.3.4%01", "\xff"} {
		f.Add(s, []byte(s), 6, 0)
	}
	f.Fuzz(func(t *testing.T, s string, b []byte, family, zone int) {
		read(t, s)
		a := api.Addr{Family: family, Zone: zone}
		copy(a.IP[:], b)
		wrote(t, a)
		a.Family, a.Zone = api.Inet6, min(max(zone, 0), most)
		undone(t, a)
	})
}
