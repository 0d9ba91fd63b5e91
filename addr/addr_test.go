package addr

import (
	"encoding/hex"
	"fmt"
	"math/big"
	"net/netip"
	"regexp"
	"slices"
	"strconv"
	"strings"
	"testing"

	"wayfinder/api"
)

const mostInt = 1<<63 - 1

// of4 is the address of Inet with four bytes.
func of4(a, b, c, d byte) api.Addr {
	return api.Addr{Family: 4, IP: [16]byte{0: a, 1: b, 2: c, 3: d}}
}

// of6 is the address of Inet6 with eight groups.
func of6(g ...int) api.Addr {
	a := api.Addr{Family: 6}
	for i, v := range g {
		a.IP[2*i], a.IP[2*i+1] = byte(v>>8), byte(v)
	}
	return a
}

// mapped is the address of Inet6 that stands for four bytes.
func mapped(a, b, c, d byte) api.Addr {
	return of6(0, 0, 0, 0, 0, 0xffff, int(a)<<8|int(b), int(c)<<8|int(d))
}

// in is an address in a zone.
func in(zone int, a api.Addr) api.Addr {
	a.Zone = zone
	return a
}

// as is an address as one of another family.
func as(family int, a api.Addr) api.Addr {
	a.Family = family
	return a
}

// with is an address with another byte at a place.
func with(at int, b byte, a api.Addr) api.Addr {
	a.IP[at] = b
	return a
}

// row is n times a text.
func row(n int, s string) string { return strings.Repeat(s, n) }

// name is the name whose labels stand between dots.
func name(s string) api.Name { return strings.Split(s, ".") }

// some are addresses of all kinds, such as may be and such as may not.
func some() []api.Addr {
	l := []api.Addr{
		{}, {Family: -1}, {Family: 4}, {Family: 6}, {Family: 5}, {Family: 7, IP: [16]byte{127, 0, 0, 1}}, {IP: [16]byte{15: 1}}, {Zone: 1}, {Family: mostInt, Zone: -1}, {Family: -mostInt - 1},
		of4(0, 0, 0, 1), of4(1, 2, 3, 4), of4(10, 0, 0, 0), of4(10, 128, 0, 0), of4(10, 0, 0, 1), of4(126, 255, 255, 255), of4(127, 0, 0, 0), of4(127, 0, 0, 1), of4(127, 255, 255, 255), of4(128, 0, 0, 0),
		of4(169, 253, 255, 255), of4(169, 254, 0, 0), of4(169, 254, 255, 255), of4(169, 255, 0, 0), of4(192, 0, 2, 1), of4(223, 255, 255, 255), of4(224, 0, 0, 0), of4(239, 255, 255, 255), of4(240, 0, 0, 0), of4(255, 255, 255, 255), of4(254, 128, 0, 0),
		in(1, of4(127, 0, 0, 1)), in(-1, of4(1, 2, 3, 4)), with(4, 1, of4(127, 0, 0, 1)), with(15, 255, of4(224, 0, 0, 1)), with(15, 1, of4(0, 0, 0, 0)),
		of6(0, 0, 0, 0, 0, 0, 0, 1), in(9, of6(0, 0, 0, 0, 0, 0, 0, 1)), of6(0, 0, 0, 0, 0, 0, 0, 2), of6(0, 0, 0, 0, 0, 0, 1, 0), of6(1), of6(0x8000), of6(0x2001, 0xdb8, 0, 0, 0, 0, 0, 1), of6(0x2001, 0xdb8, 0xffff), of6(0x2001, 0xdb9),
		of6(0xfe7f, 0xffff), of6(0xfe80), of6(0xfe80, 0, 0, 0, 0, 0, 0, 1), in(3, of6(0xfe80, 0, 0, 0, 0, 0, 0, 1)), of6(0xfebf, 0xffff, 0xffff, 0xffff, 0xffff, 0xffff, 0xffff, 0xffff), of6(0xfec0), of6(0xfeff, 0xffff, 0xffff, 0xffff, 0xffff, 0xffff, 0xffff, 0xffff), of6(0xfc00), of6(0xfd00), of6(0xff00), of6(0xff02, 0, 0, 0, 0, 0, 0, 1), of6(0xff0e), of6(0xff15), of6(0xfff8), of6(0xffff, 0xffff, 0xffff, 0xffff, 0xffff, 0xffff, 0xffff, 0xffff), of6(0x7f00), of6(0xe000), of6(0xa9fe),
		mapped(0, 0, 0, 0), mapped(1, 2, 3, 4), mapped(127, 0, 0, 1), mapped(126, 0, 0, 1), mapped(169, 254, 1, 1), mapped(224, 0, 0, 1), mapped(255, 255, 255, 255), in(2, mapped(127, 0, 0, 1)), in(-2, mapped(10, 0, 0, 0)), in(mostInt, mapped(10, 0, 0, 1)),
		of6(0, 0, 0, 0, 0, 0xfffe, 0x7f00, 1), of6(0, 0, 0, 0, 0, 0, 0x7f00, 1), of6(0, 0, 0, 0, 1, 0xffff, 0x7f00, 1), of6(0x8000, 0, 0, 0, 0, 0xffff, 0x7f00, 1), of6(0, 0, 0, 0, 0xffff, 0, 0x7f00, 1), of6(0, 0, 0, 0, 0, 0x7fff, 0x7f00, 1), of6(0, 0, 0, 0, 0, 0xff, 0x7f00, 1),
	}
	for _, zone := range []int{-mostInt - 1, -1, 0, 1, 1<<31 - 1, 1 << 31, 1<<31 + 1, 1 << 32, mostInt} {
		l = append(l, in(zone, of6(0xfe80, 0, 0, 0, 0, 0, 0, 1)), in(zone, of6(0x2001, 0xdb8)))
	}
	return l
}

// library is an address as the library has it: of Inet by its first four bytes, in no zone.
func library(a api.Addr) netip.Addr {
	switch a.Family {
	case 4:
		return netip.AddrFrom4([4]byte(a.IP[:4]))
	case 6:
		return netip.AddrFrom16(a.IP)
	}
	return netip.Addr{}
}

// plainCheck is Check by another way: by all that makes an address one that may be.
func plainCheck(a api.Addr) api.Errno {
	rest := strings.Trim(string(a.IP[4:]), "\x00")
	switch {
	case a.Family != 4 && a.Family != 6:
		return 10
	case a.Family == 4 && !(rest == "" && a.Zone == 0):
		return 5
	case uint64(a.Zone) >= 1<<31:
		return 4
	}
	return 0
}

// plainText is Text by another way: the library's.
func plainText(a api.Addr) string {
	if library(a) == (netip.Addr{}) {
		return ""
	}
	s := library(a).String()
	if a.Family == 6 && a.Zone > 0 {
		s += fmt.Sprintf("%%%d", a.Zone)
	}
	return s
}

// plainParse is Parse by another way: the library's, but for zones, which it takes for any texts.
func plainParse(s string) (api.Addr, api.Errno) {
	head, zone, zoned := strings.Cut(s, "%")
	p, err := netip.ParseAddr(head)
	if err != nil || zoned && !p.Is6() {
		return api.Addr{}, 5
	}
	if p.Is4() {
		b := p.As4()
		return of4(b[0], b[1], b[2], b[3]), 0
	}
	a := api.Addr{Family: 6, IP: p.As16()}
	if !zoned {
		return a, 0
	}
	if zone == "" || strings.Trim(zone, "0123456789") != "" {
		return api.Addr{}, 5
	}
	n, _ := new(big.Int).SetString(zone, 10)
	if n.Sign() == 0 || n.BitLen() > 31 {
		return api.Addr{}, 4
	}
	a.Zone = int(n.Int64())
	return a, 0
}

// plainMap is Map by another way: the library's.
func plainMap(a api.Addr) api.Addr {
	if a.Family == 4 {
		return api.Addr{Family: 6, IP: library(a).As16()}
	}
	return a
}

// plainUnmap is Unmap by another way: the library's.
func plainUnmap(a api.Addr) api.Addr {
	if p := library(a); p.Is4In6() {
		b := p.Unmap().As4()
		return of4(b[0], b[1], b[2], b[3])
	}
	return a
}

// digits are an address's bits, each as a digit.
func digits(a api.Addr) string {
	s := ""
	for _, c := range a.IP {
		s += fmt.Sprintf("%08b", c)
	}
	return s[:map[int]int{4: 32, 6: 128}[a.Family]]
}

// plainCommon is Common by another way: by bits, one after the other.
func plainCommon(a, b api.Addr) int {
	x, y := digits(a), digits(b)
	if len(x) != len(y) {
		return 0
	}
	n := 0
	for n < len(x) && x[n] == y[n] {
		n++
	}
	return n
}

// plainHolds is Holds by another way.
func plainHolds(p api.Prefix) api.Errno {
	if e := plainCheck(p.Addr); e != 0 {
		return e
	}
	if p.Bits < 0 || p.Bits > len(digits(p.Addr)) {
		return 4
	}
	return 0
}

// plainWithin is Within by another way: the library's.
func plainWithin(a api.Addr, p api.Prefix) bool {
	if plainHolds(p) != 0 || library(a) == (netip.Addr{}) {
		return false
	}
	return netip.PrefixFrom(library(p.Addr), p.Bits).Contains(library(a))
}

// plainCmp is Cmp by another way: by one number that all stands in.
func plainCmp(a, b api.Addr) int {
	return number(a).Cmp(number(b))
}

// number is an address as one number: its family, its bytes and its zone, each raised so far that it is not below 0.
func number(a api.Addr) *big.Int {
	n := new(big.Int)
	for _, part := range []*big.Int{signed(a.Family), new(big.Int).SetBytes(a.IP[:]), signed(a.Zone)} {
		n.Add(n.Lsh(n, 128), part)
	}
	return n
}

// signed is a number, raised so far that it is not below 0.
func signed(n int) *big.Int {
	raised := new(big.Int).Lsh(big.NewInt(1), 63)
	return raised.Add(raised, big.NewInt(int64(n)))
}

// plainScope is Scope by another way: the library's, where it has such a question.
func plainScope(a api.Addr) int {
	p := library(a)
	switch {
	case p == netip.Addr{}:
		return 0
	case p.Is4In6():
		p = p.Unmap()
	case p.Is6() && p.IsMulticast():
		return int(a.IP[1]) % 16
	}
	if p.IsLoopback() || p.IsLinkLocalUnicast() {
		return 2
	}
	if netip.MustParsePrefix("fec0::/10").Contains(p) {
		return 5
	}
	return 14
}

// plainMulti is Multi by another way: the library's, which asks for what an address stands for, too.
func plainMulti(a api.Addr) bool {
	p := library(a)
	return p.IsMulticast() && !p.Is4In6()
}

// plainReverse is Reverse by another way: written from the first byte on, and turned round as a whole.
func plainReverse(a api.Addr) api.Name {
	switch a.Family {
	case 4:
		return name(fmt.Sprintf("%d.%d.%d.%d.in-addr.arpa", a.IP[3], a.IP[2], a.IP[1], a.IP[0]))
	case 6:
		n := strings.Split(hex.EncodeToString(a.IP[:]), "")
		slices.Reverse(n)
		return append(n, "ip6", "arpa")
	}
	return nil
}

// reversed4 and reversed6 are the names under which addresses are looked for, with a | for each dot.
var (
	reversed4 = regexp.MustCompile(`^((25[0-5]|2[0-4][0-9]|1[0-9][0-9]|[1-9]?[0-9])\|){4}[iI][nN]-[aA][dD][dD][rR]\|[aA][rR][pP][aA]$`)
	reversed6 = regexp.MustCompile(`^([0-9a-fA-F]\|){32}[iI][pP]6\|[aA][rR][pP][aA]$`)
)

// plainUnreverse is Unreverse by another way: by patterns.
func plainUnreverse(n api.Name) (api.Addr, bool) {
	if slices.ContainsFunc(n, func(l string) bool { return strings.Contains(l, "|") }) {
		return api.Addr{}, false
	}
	var a api.Addr
	switch s := strings.Join(n, "|"); {
	case reversed4.MatchString(s):
		a.Family = 4
		for i := range 4 {
			v, _ := strconv.Atoi(n[i])
			a.IP[3-i] = byte(v)
		}
	case reversed6.MatchString(s):
		a.Family = 6
		l := slices.Clone(n[:32])
		slices.Reverse(l)
		b, _ := hex.DecodeString(strings.Join(l, ""))
		copy(a.IP[:], b)
	default:
		return api.Addr{}, false
	}
	return a, true
}

// asked holds all that is asked of one address against the plain ways.
func asked(t *testing.T, a api.Addr) {
	t.Helper()
	if got, want := Check(a), plainCheck(a); got != want {
		t.Errorf("Check(%v): %v, want %v", a, got, want)
	}
	if got, want := Bits(a), len(digits(a)); got != want {
		t.Errorf("Bits(%v): %d, want %d", a, got, want)
	}
	if got, want := Text(a), plainText(a); got != want {
		t.Errorf("Text(%v): %q, want %q", a, got, want)
	}
	if got, want := Map(a), plainMap(a); got != want {
		t.Errorf("Map(%v): %v, want %v", a, got, want)
	}
	if got, want := Unmap(a), plainUnmap(a); got != want {
		t.Errorf("Unmap(%v): %v, want %v", a, got, want)
	}
	if got, want := Scope(a), plainScope(a); got != want {
		t.Errorf("Scope(%v): %d, want %d", a, got, want)
	}
	if got, want := Multi(a), plainMulti(a); got != want {
		t.Errorf("Multi(%v): %v, want %v", a, got, want)
	}
	if got, want := Reverse(a), plainReverse(a); !slices.Equal(got, want) {
		t.Errorf("Reverse(%v): %q, want %q", a, got, want)
	}
	undone(t, a)
}

// undone holds promise 9.5 of an address.
func undone(t *testing.T, a api.Addr) {
	t.Helper()
	if Check(a) == api.OK {
		if got, e := Parse(Text(a)); got != a || e != api.OK {
			t.Errorf("Parse(%q): %v, %v, want %v", Text(a), got, e, a)
		}
		if got, ok := Unreverse(Reverse(a)); got != in(0, a) || !ok {
			t.Errorf("Unreverse(%q): %v, %v, want %v", Reverse(a), got, ok, a)
		}
		if m := Map(a); Unmap(m) != Unmap(a) || a.Family == api.Inet && Unmap(m) != a {
			t.Errorf("%v, by Map %v, by Unmap of that %v", a, m, Unmap(m))
		}
	}
	if u := Unmap(a); u != a && Map(u) != in(0, a) {
		t.Errorf("%v, by Unmap %v, by Map of that %v", a, u, Map(u))
	}
}

// held holds what is asked of two addresses against the plain ways.
func held(t *testing.T, a, b api.Addr) {
	t.Helper()
	if got, want := Common(a, b), plainCommon(a, b); got != want {
		t.Errorf("Common(%v, %v): %d, want %d", a, b, got, want)
	}
	if got, want := Cmp(a, b), plainCmp(a, b); got != want {
		t.Errorf("Cmp(%v, %v): %d, want %d", a, b, got, want)
	}
}

// fits holds what is asked of a prefix and an address against the plain ways.
func fits(t *testing.T, a api.Addr, p api.Prefix) {
	t.Helper()
	if got, want := Holds(p), plainHolds(p); got != want {
		t.Errorf("Holds(%v): %v, want %v", p, got, want)
	}
	if got, want := Within(a, p), plainWithin(a, p); got != want {
		t.Errorf("Within(%v, %v): %v, want %v", a, p, got, want)
	}
}

// turned holds the reading of a name against the plain way.
func turned(t *testing.T, n api.Name) {
	t.Helper()
	was := slices.Clone(n)
	want, wantOK := plainUnreverse(n)
	if got, ok := Unreverse(n); got != want || ok != wantOK {
		t.Errorf("Unreverse(%.80q): %v, %v, want %v, %v", n, got, ok, want, wantOK)
	}
	if !slices.Equal(n, was) {
		t.Errorf("Unreverse wrote into %.80q: %.80q", was, n)
	}
}

// read holds the reading of a text against the plain way.
func read(t *testing.T, s string) {
	t.Helper()
	want, wrong := plainParse(s)
	if a, e := Parse(s); a != want || e != wrong {
		t.Errorf("Parse(%.80q): %v, %v, want %v, %v", s, a, e, want, wrong)
	}
}

// Promises 9.1 to 9.5 and P1: addresses of all kinds, each alone and each beside each.
func TestAll(t *testing.T) {
	l := some()
	for _, a := range l {
		asked(t, a)
		for _, b := range l {
			held(t, a, b)
			for _, bits := range []int{-mostInt - 1, -1, 0, 1, 4, 7, 8, 9, 10, 11, 16, 31, 32, 33, 64, 96, 127, 128, 129, mostInt} {
				fits(t, a, api.Prefix{Addr: b, Bits: bits})
			}
		}
	}
}

// Promise 9.1.
func TestCheck(t *testing.T) {
	one := of6(0xfe80, 0, 0, 0, 0, 0, 0, 1)
	for _, c := range []struct {
		a    api.Addr
		want api.Errno
	}{
		{of4(0, 0, 0, 0), api.OK}, {of4(1, 2, 3, 4), api.OK}, {of4(255, 255, 255, 255), api.OK},
		{of6(), api.OK}, {one, api.OK}, {mapped(1, 2, 3, 4), api.OK},
		{in(1, one), api.OK}, {in(1<<31-1, one), api.OK}, {in(5, of6()), api.OK}, {in(5, mapped(1, 2, 3, 4)), api.OK},
		// Another family, whatever else is wrong.
		{api.Addr{}, api.ErrKind}, {as(5, one), api.ErrKind}, {as(-4, of4(1, 2, 3, 4)), api.ErrKind}, {as(-6, one), api.ErrKind}, {as(2, of4(1, 2, 3, 4)), api.ErrKind}, {as(10, one), api.ErrKind}, {as(4+1<<32, one), api.ErrKind},
		{as(0, in(-1, one)), api.ErrKind}, {as(0, in(1<<31, one)), api.ErrKind}, {as(7, with(4, 1, of4(1, 2, 3, 4))), api.ErrKind},
		// Something of Inet that is not 0; of that it is never told that a zone is too great.
		{in(1, of4(1, 2, 3, 4)), api.ErrForm}, {in(-1, of4(1, 2, 3, 4)), api.ErrForm}, {in(1<<31, of4(1, 2, 3, 4)), api.ErrForm}, {in(1<<32, of4(0, 0, 0, 0)), api.ErrForm}, {in(-mostInt-1, of4(0, 0, 0, 0)), api.ErrForm},
		{as(4, one), api.ErrForm}, {as(4, in(1<<31, one)), api.ErrForm},
		// A zone out of range.
		{in(1<<31, one), api.ErrRange}, {in(1<<32, one), api.ErrRange}, {in(1<<32+1, one), api.ErrRange}, {in(mostInt, of6()), api.ErrRange}, {in(-1, one), api.ErrRange}, {in(-1<<31, one), api.ErrRange}, {in(-mostInt-1, of6()), api.ErrRange},
	} {
		if got := Check(c.a); got != c.want {
			t.Errorf("Check(%v): %v, want %v", c.a, got, c.want)
		}
	}
	for at := range 16 {
		want := api.OK
		if at >= 4 {
			want = api.ErrForm
		}
		for _, b := range []byte{1, 128, 255} {
			if got := Check(with(at, b, of4(0, 0, 0, 0))); got != want {
				t.Errorf("byte %d of Inet is %d: %v, want %v", at, b, got, want)
			}
			if got := Check(with(at, b, of6())); got != api.OK {
				t.Errorf("byte %d of Inet6 is %d: %v", at, b, got)
			}
		}
	}
}

// Promise 9.1: whatever else is wrong with an address, its family alone tells.
func TestBits(t *testing.T) {
	for family, want := range map[int]int{4: 32, 6: 128, 0: 0, 1: 0, 2: 0, 3: 0, 5: 0, 7: 0, 10: 0, 32: 0, 128: 0, -1: 0, -4: 0, -6: 0, mostInt: 0} {
		for _, a := range []api.Addr{{}, of4(1, 2, 3, 4), of6(1, 2, 3, 4, 5, 6, 7, 8), in(-1, of6()), in(1<<31, of4(0, 0, 0, 0))} {
			if got := Bits(as(family, a)); got != want {
				t.Errorf("Bits(%v): %d, want %d", as(family, a), got, want)
			}
		}
	}
}

// Promise 9.1.
func TestText(t *testing.T) {
	for _, c := range []struct {
		a    api.Addr
		want string
	}{
		{of4(192, 0, 2, 53), "192.0.2.53"},
		{of4(0, 0, 0, 0), "0.0.0.0"},
		{in(7, with(9, 9, of4(1, 2, 3, 4))), "1.2.3.4"},
		{of6(0x2001, 0xdb8, 0, 0, 1, 0, 0, 1), "2001:db8::1:0:0:1"},
		{of6(), "::"},
		{in(3, of6(0xfe80, 0, 0, 0, 0, 0, 0, 1)), "fe80::1%3"},
		{in(-3, of6(0xfe80)), "fe80::"},
		{mapped(1, 2, 3, 4), "::ffff:1.2.3.4"},
		{api.Addr{}, ""},
		{as(5, of4(1, 2, 3, 4)), ""},
		{as(-6, in(1, of6(1))), ""},
	} {
		if got := Text(c.a); got != c.want {
			t.Errorf("Text(%v): %q, want %q", c.a, got, c.want)
		}
	}
}

// Promise 9.1: a colon anywhere tells by which writing a text is read.
func TestParse(t *testing.T) {
	for _, c := range []struct {
		s    string
		want api.Addr
		e    api.Errno
	}{
		{"192.0.2.53", of4(192, 0, 2, 53), api.OK},
		{"0.0.0.0", of4(0, 0, 0, 0), api.OK},
		{"255.255.255.255", of4(255, 255, 255, 255), api.OK},
		{"::", of6(), api.OK},
		{"2001:DB8::1", of6(0x2001, 0xdb8, 0, 0, 0, 0, 0, 1), api.OK},
		{"1:2:3:4:5:6:7:8", of6(1, 2, 3, 4, 5, 6, 7, 8), api.OK},
		{"fe80::1%3", in(3, of6(0xfe80, 0, 0, 0, 0, 0, 0, 1)), api.OK},
		{"::1%2147483647", in(1<<31-1, of6(0, 0, 0, 0, 0, 0, 0, 1)), api.OK},
		// One of Inet6 that stands for one of Inet stays one of Inet6.
		{"::ffff:1.2.3.4", mapped(1, 2, 3, 4), api.OK},
		{"::1.2.3.4", of6(0, 0, 0, 0, 0, 0, 0x102, 0x304), api.OK},
		// As Parse of quad reads them, not as old programs do.
		{"", api.Addr{}, api.ErrForm}, {"127.1", api.Addr{}, api.ErrForm}, {"0x7f000001", api.Addr{}, api.ErrForm}, {"1", api.Addr{}, api.ErrForm}, {"01.2.3.4", api.Addr{}, api.ErrForm}, {"256.2.3.4", api.Addr{}, api.ErrForm}, {"4294967296", api.Addr{}, api.ErrForm}, {"1.2.3.4%1", api.Addr{}, api.ErrForm}, {"1.2.3.4%0", api.Addr{}, api.ErrForm}, {"1.2.3.4.", api.Addr{}, api.ErrForm}, {" 1.2.3.4", api.Addr{}, api.ErrForm}, {"localhost", api.Addr{}, api.ErrForm},
		{":", api.Addr{}, api.ErrForm}, {":::", api.Addr{}, api.ErrForm}, {"1.2.3.4:53", api.Addr{}, api.ErrForm}, {"[::1]", api.Addr{}, api.ErrForm}, {"::1%", api.Addr{}, api.ErrForm}, {"::1%eth0", api.Addr{}, api.ErrForm}, {"1.2.3.4%:", api.Addr{}, api.ErrForm}, {"1.2.3.4%1:", api.Addr{}, api.ErrForm}, {"::/0", api.Addr{}, api.ErrForm}, {"1\uff1a:", api.Addr{}, api.ErrForm}, {"\uff1a\uff1a", api.Addr{}, api.ErrForm},
		{"::1%0", api.Addr{}, api.ErrRange}, {"::1%2147483648", api.Addr{}, api.ErrRange}, {"fe80::1%" + row(1000, "9"), api.Addr{}, api.ErrRange},
	} {
		if a, e := Parse(c.s); a != c.want || e != c.e {
			t.Errorf("Parse(%.80q): %v, %v, want %v, %v", c.s, a, e, c.want, c.e)
		}
		read(t, c.s)
	}
	for b := range 256 {
		s := string([]byte{byte(b)})
		for _, c := range []string{s, "1.2.3" + s + "4", "1.2.3.4" + s, s + "1.2.3.4", ":" + s + ":", "::" + s, s + "::", "::1%" + s, "1:2:3:4:5:6:7" + s + "8", "1.2.3.4%" + s} {
			read(t, c)
		}
	}
}

// Promise 9.2.
func TestMap(t *testing.T) {
	for _, c := range []struct{ a, want api.Addr }{
		{of4(1, 2, 3, 4), mapped(1, 2, 3, 4)},
		{of4(0, 0, 0, 0), mapped(0, 0, 0, 0)},
		{of4(255, 255, 255, 255), mapped(255, 255, 255, 255)},
		// Of one that may not be its four bytes alone.
		{in(9, of4(1, 2, 3, 4)), mapped(1, 2, 3, 4)},
		{in(-1, with(4, 5, with(15, 6, of4(1, 2, 3, 4)))), mapped(1, 2, 3, 4)},
		// Others are as they are.
		{of6(1, 2, 3, 4, 5, 6, 7, 8), of6(1, 2, 3, 4, 5, 6, 7, 8)},
		{in(3, mapped(1, 2, 3, 4)), in(3, mapped(1, 2, 3, 4))},
		{in(-3, of6(1)), in(-3, of6(1))},
		{api.Addr{}, api.Addr{}},
		{as(5, in(1, of4(1, 2, 3, 4))), as(5, in(1, of4(1, 2, 3, 4)))},
	} {
		if got := Map(c.a); got != c.want {
			t.Errorf("Map(%v): %v, want %v", c.a, got, c.want)
		}
	}
}

// Promise 9.2.
func TestUnmap(t *testing.T) {
	for _, c := range []struct{ a, want api.Addr }{
		{mapped(1, 2, 3, 4), of4(1, 2, 3, 4)},
		{mapped(0, 0, 0, 0), of4(0, 0, 0, 0)},
		{mapped(255, 255, 255, 255), of4(255, 255, 255, 255)},
		// Without the zone.
		{in(3, mapped(1, 2, 3, 4)), of4(1, 2, 3, 4)},
		{in(-3, mapped(1, 2, 3, 4)), of4(1, 2, 3, 4)},
		{in(mostInt, mapped(1, 2, 3, 4)), of4(1, 2, 3, 4)},
		// Others are as they are.
		{in(7, with(8, 1, of4(1, 2, 3, 4))), in(7, with(8, 1, of4(1, 2, 3, 4)))},
		{of4(1, 2, 3, 4), of4(1, 2, 3, 4)},
		{as(4, mapped(1, 2, 3, 4)), as(4, mapped(1, 2, 3, 4))},
		{as(0, mapped(1, 2, 3, 4)), as(0, mapped(1, 2, 3, 4))},
		{as(16, in(1, mapped(1, 2, 3, 4))), as(16, in(1, mapped(1, 2, 3, 4)))},
		{of6(), of6()},
		{in(2, of6(0, 0, 0, 0, 0, 0, 0x102, 0x304)), in(2, of6(0, 0, 0, 0, 0, 0, 0x102, 0x304))},
		{api.Addr{}, api.Addr{}},
	} {
		if got := Unmap(c.a); got != c.want {
			t.Errorf("Unmap(%v): %v, want %v", c.a, got, c.want)
		}
	}
	// Each of the twelve bytes ahead counts, with each of its bits.
	for at := range 12 {
		for bit := range 8 {
			a := in(4, mapped(1, 2, 3, 4))
			a.IP[at] ^= 1 << bit
			if got := Unmap(a); got != a {
				t.Errorf("Unmap(%v): %v", a, got)
			}
		}
	}
}

// Promise 9.2, and example 1.
func TestCommon(t *testing.T) {
	for _, c := range []struct {
		a, b api.Addr
		want int
	}{
		{of4(10, 0, 0, 0), of4(10, 128, 0, 0), 8},
		{of4(10, 0, 0, 0), of4(10, 0, 0, 0), 32},
		{of4(10, 0, 0, 0), of4(10, 0, 0, 1), 31},
		{of4(0, 0, 0, 0), of4(128, 0, 0, 0), 0},
		{of4(0, 0, 0, 0), of4(64, 255, 255, 255), 1},
		// Of Inet 32 at most, whatever stands behind.
		{with(4, 1, of4(1, 2, 3, 4)), of4(1, 2, 3, 4), 32},
		{with(15, 255, of4(1, 2, 3, 4)), in(9, of4(1, 2, 3, 4)), 32},
		{of6(1), of6(1), 128},
		{of6(1), in(5, of6(1)), 128},
		{in(-1, of6(1)), in(mostInt, of6(1)), 128},
		{of6(), of6(0, 0, 0, 0, 0, 0, 0, 1), 127},
		{of6(), of6(0x8000), 0},
		{of6(0x2001, 0xdb8), of6(0x2001, 0xdb9), 31},
		{of6(0x2001, 0xdb8), of6(0x2001, 0xdb8, 0xffff), 32},
		// None of unlike families, and of none.
		{of4(1, 2, 3, 4), as(6, of4(1, 2, 3, 4)), 0},
		{as(6, of4(1, 2, 3, 4)), of4(1, 2, 3, 4), 0},
		{of4(1, 2, 3, 4), mapped(1, 2, 3, 4), 0},
		{api.Addr{}, api.Addr{}, 0},
		{as(5, of6(1)), as(5, of6(1)), 0},
		{api.Addr{}, of4(0, 0, 0, 0), 0},
		{of6(), api.Addr{}, 0},
	} {
		if got := Common(c.a, c.b); got != c.want {
			t.Errorf("Common(%v, %v): %d, want %d", c.a, c.b, got, c.want)
		}
	}
	// Each bit, as the first one that differs.
	for n := range 128 {
		for _, a := range []api.Addr{of6(), of6(0xffff, 0xffff, 0xffff, 0xffff, 0xffff, 0xffff, 0xffff, 0xffff), of6(1, 2, 3, 4, 5, 6, 7, 8)} {
			b := a
			b.IP[n/8] ^= 128 >> (n % 8)
			for i := n + 1; i < 128; i += 3 {
				b.IP[i/8] ^= 128 >> (i % 8)
			}
			if got := Common(a, b); got != n {
				t.Errorf("Common(%v, %v): %d, want %d", a, b, got, n)
			}
			if got := Common(as(4, a), as(4, b)); got != min(n, 32) {
				t.Errorf("Common(%v, %v) as of Inet: %d, want %d", a, b, got, min(n, 32))
			}
		}
	}
}

// Promise 9.2.
func TestHolds(t *testing.T) {
	for _, c := range []struct {
		a    api.Addr
		bits int
		want api.Errno
	}{
		{of4(10, 0, 0, 0), 0, api.OK}, {of4(10, 0, 0, 0), 8, api.OK}, {of4(10, 0, 0, 0), 32, api.OK}, {of4(10, 1, 2, 3), 1, api.OK},
		{of6(), 0, api.OK}, {of6(1), 33, api.OK}, {of6(1), 128, api.OK}, {in(1<<31-1, of6(1)), 64, api.OK},
		{of4(10, 0, 0, 0), 33, api.ErrRange}, {of4(10, 0, 0, 0), 128, api.ErrRange}, {of4(10, 0, 0, 0), -1, api.ErrRange}, {of4(10, 0, 0, 0), mostInt, api.ErrRange}, {of4(10, 0, 0, 0), -mostInt - 1, api.ErrRange},
		{of6(1), 129, api.ErrRange}, {of6(1), -1, api.ErrRange}, {of6(1), 1 << 32, api.ErrRange},
		// Check's error goes ahead.
		{api.Addr{}, 0, api.ErrKind}, {api.Addr{}, -1, api.ErrKind}, {as(5, of6(1)), 8, api.ErrKind}, {as(5, in(-1, of6(1))), 999, api.ErrKind},
		{in(1, of4(10, 0, 0, 0)), 8, api.ErrForm}, {with(4, 1, of4(10, 0, 0, 0)), 33, api.ErrForm}, {as(4, of6(1, 2, 3)), -1, api.ErrForm},
		{in(-1, of6(1)), 8, api.ErrRange}, {in(1<<31, of6(1)), 8, api.ErrRange},
	} {
		p := api.Prefix{Addr: c.a, Bits: c.bits}
		if got := Holds(p); got != c.want {
			t.Errorf("Holds(%v): %v, want %v", p, got, c.want)
		}
	}
}

// Promise 9.2.
func TestWithin(t *testing.T) {
	for _, c := range []struct {
		a, to api.Addr
		bits  int
		want  bool
	}{
		{of4(10, 1, 2, 3), of4(10, 0, 0, 0), 8, true}, {of4(11, 1, 2, 3), of4(10, 0, 0, 0), 8, false},
		{of4(10, 1, 2, 3), of4(10, 1, 2, 3), 32, true}, {of4(10, 1, 2, 2), of4(10, 1, 2, 3), 32, false}, {of4(10, 1, 2, 2), of4(10, 1, 2, 3), 31, true},
		{of4(255, 255, 255, 255), of4(0, 0, 0, 0), 0, true},
		// What stands behind a prefix's bits does not count.
		{of4(10, 1, 2, 3), of4(10, 255, 255, 255), 8, true}, {of6(0xfe80, 1), of6(0xfe80, 2), 16, true},
		{of6(0x2001, 0xdb8, 0xffff), of6(0x2001, 0xdb8, 0, 0, 0, 0, 0, 1), 32, true}, {of6(0x2001, 0xdb8, 0x8000), of6(0x2001, 0xdb8), 33, false},
		{of6(0xffff), of6(), 0, true}, {of6(1), of6(1), 128, true},
		// Nor does a zone, of either.
		{in(3, of6(0xfe80, 1)), of6(0xfe80), 10, true}, {in(3, of6(0xfe80, 1)), in(4, of6(0xfe80, 1)), 128, true}, {in(-1, of6(0xfe80)), of6(0xfe80), 10, true},
		// Nor what is wrong with the address alone.
		{in(9, with(15, 9, of4(10, 1, 2, 3))), of4(10, 0, 0, 0), 8, true},
		// Of another family, even for no bits.
		{of4(0, 0, 0, 0), of6(), 0, false}, {of6(), of4(0, 0, 0, 0), 0, false}, {mapped(10, 1, 2, 3), of4(10, 0, 0, 0), 8, false}, {of4(10, 1, 2, 3), mapped(10, 1, 2, 3), 96, false}, {api.Addr{}, of4(0, 0, 0, 0), 0, false}, {as(5, of6()), of6(), 0, false},
		// A prefix that may not be has none.
		{of4(10, 0, 0, 0), of4(10, 0, 0, 0), 33, false}, {of4(10, 0, 0, 0), of4(10, 0, 0, 0), -1, false}, {of6(1), of6(1), 129, false}, {of6(1), of6(1), -1, false}, {of6(1), of6(1), -mostInt - 1, false},
		{of4(10, 0, 0, 0), in(1, of4(10, 0, 0, 0)), 8, false}, {of4(10, 0, 0, 0), with(4, 1, of4(10, 0, 0, 0)), 8, false}, {of6(1), in(-1, of6(1)), 8, false}, {of6(1), in(1<<31, of6(1)), 0, false},
		{api.Addr{}, api.Addr{}, 0, false}, {as(5, of6(1)), as(5, of6(1)), 0, false},
	} {
		p := api.Prefix{Addr: c.to, Bits: c.bits}
		if got := Within(c.a, p); got != c.want {
			t.Errorf("Within(%v, %v): %v, want %v", c.a, p, got, c.want)
		}
		fits(t, c.a, p)
	}
	a := of6(0x5555, 0xaaaa, 0x1234, 0xffff, 0, 0x8001, 0x7ffe, 0xa5a5)
	for n := range 128 {
		b := a
		b.IP[n/8] ^= 128 >> (n % 8)
		for bits := -1; bits <= 130; bits++ {
			fits(t, b, api.Prefix{Addr: a, Bits: bits})
			fits(t, of4(b.IP[0], b.IP[1], b.IP[2], b.IP[3]), api.Prefix{Addr: of4(a.IP[0], a.IP[1], a.IP[2], a.IP[3]), Bits: bits})
		}
	}
}

// Promise 9.2: addresses in order, each beside each.
func TestCmp(t *testing.T) {
	rising := []api.Addr{
		{Family: -mostInt - 1, IP: [16]byte{255}}, {Family: -1, Zone: 5}, {}, {Zone: 1}, {IP: [16]byte{15: 1}}, {Family: 3, IP: [16]byte{255}, Zone: mostInt},
		in(-mostInt-1, of4(0, 0, 0, 0)), of4(0, 0, 0, 0), in(1, of4(0, 0, 0, 0)), with(15, 1, of4(0, 0, 0, 0)), with(4, 1, of4(0, 0, 0, 0)), of4(0, 0, 0, 1), of4(0, 0, 1, 0), of4(1, 0, 0, 0), of4(1, 0, 0, 1), of4(127, 255, 255, 255), of4(128, 0, 0, 0), of4(255, 255, 255, 255),
		{Family: 5}, in(-1, of6()), of6(), in(1, of6()), in(1<<31-1, of6()), in(mostInt, of6()), of6(0, 0, 0, 0, 0, 0, 0, 1), of6(0, 0, 0, 0, 0, 0, 0, 0x100), of6(0, 1), in(-9, of6(1)), of6(1), in(9, of6(1)), of6(1, 0xffff), of6(0x7fff, 0xffff), of6(0x8000), of6(0xffff, 0xffff, 0xffff, 0xffff, 0xffff, 0xffff, 0xffff, 0xffff),
		{Family: 7}, {Family: mostInt},
	}
	for i, a := range rising {
		for j, b := range rising {
			want := 0
			if i < j {
				want = -1
			} else if i > j {
				want = 1
			}
			if got := Cmp(a, b); got != want {
				t.Errorf("Cmp(%v, %v): %d, want %d", a, b, got, want)
			}
		}
	}
	// Each byte, held against all that stands behind it.
	for at := range 16 {
		for _, family := range []int{4, 6} {
			a := as(family, with(at, 7, api.Addr{Zone: -5}))
			b := as(family, with(at, 6, of6(0xffff, 0xffff, 0xffff, 0xffff, 0xffff, 0xffff, 0xffff, 0xffff)))
			copy(b.IP[:at], a.IP[:at])
			held(t, a, b)
			if Cmp(a, b) != 1 || Cmp(b, a) != -1 {
				t.Errorf("%v, %v: %d", a, b, Cmp(a, b))
			}
		}
	}
}

// Promise 9.3.
func TestScope(t *testing.T) {
	for _, c := range []struct {
		a    api.Addr
		want int
	}{
		{of4(127, 0, 0, 0), 2}, {of4(127, 0, 0, 1), 2}, {of4(127, 255, 255, 255), 2}, {of4(126, 255, 255, 255), 14}, {of4(128, 0, 0, 0), 14},
		{of4(169, 254, 0, 0), 2}, {of4(169, 254, 255, 255), 2}, {of4(169, 253, 255, 255), 14}, {of4(169, 255, 0, 0), 14}, {of4(168, 254, 0, 0), 14},
		{of4(10, 0, 0, 1), 14}, {of4(192, 168, 0, 1), 14}, {of4(0, 0, 0, 0), 14}, {of4(224, 0, 0, 1), 14}, {of4(255, 2, 0, 0), 14}, {of4(254, 128, 0, 0), 14}, {of4(254, 192, 0, 0), 14}, {with(15, 1, of4(0, 0, 0, 0)), 14},
		// Of many's the lower four bits of the second byte, whatever the upper ones are.
		{of6(0xff00), 0}, {of6(0xff01), 1}, {of6(0xff02, 0, 0, 0, 0, 0, 0, 1), 2}, {of6(0xff05), 5}, {of6(0xff0e), 14}, {of6(0xff0f), 15}, {of6(0xff12), 2}, {of6(0xfff8), 8}, {of6(0xfff0), 0}, {in(3, of6(0xff33)), 3},
		{of6(0xfe80), 2}, {of6(0xfe80, 0, 0, 0, 0, 0, 0, 1), 2}, {in(3, of6(0xfe80, 0, 0, 0, 0, 0, 0, 1)), 2}, {of6(0xfebf, 0xffff, 0xffff, 0xffff, 0xffff, 0xffff, 0xffff, 0xffff), 2}, {of6(0xfe7f, 0xffff), 14},
		{of6(0xfec0), 5}, {of6(0xfeff, 0xffff, 0xffff, 0xffff, 0xffff, 0xffff, 0xffff, 0xffff), 5}, {in(9, of6(0xfec0, 1)), 5},
		{of6(0, 0, 0, 0, 0, 0, 0, 1), 2}, {in(1, of6(0, 0, 0, 0, 0, 0, 0, 1)), 2}, {in(-1, of6(0, 0, 0, 0, 0, 0, 0, 1)), 2}, {in(mostInt, of6(0, 0, 0, 0, 0, 0, 0, 1)), 2}, {of6(), 14}, {of6(0, 0, 0, 0, 0, 0, 0, 2), 14}, {of6(0, 0, 0, 0, 0, 0, 1, 1), 14}, {of6(0x8000, 0, 0, 0, 0, 0, 0, 1), 14},
		// As that which it stands for.
		{mapped(127, 0, 0, 1), 2}, {in(5, mapped(127, 0, 0, 1)), 2}, {mapped(169, 254, 3, 4), 2}, {mapped(10, 0, 0, 1), 14}, {mapped(0, 0, 0, 1), 14}, {mapped(254, 128, 0, 0), 14},
		{of6(0, 0, 0, 0, 0, 0, 0x7f00, 1), 14}, {of6(0, 0, 0, 0, 0, 0xfffe, 0x7f00, 1), 14}, {of6(0x7f00), 14}, {of6(0xa9fe), 14},
		{of6(0x2001, 0xdb8, 0, 0, 0, 0, 0, 1), 14}, {of6(0xfc00), 14}, {of6(0xfdff), 14},
		{api.Addr{}, 0}, {as(5, of4(127, 0, 0, 1)), 0}, {as(0, of6(0xff0e)), 0}, {as(-6, of6(0xfe80)), 0},
	} {
		if got := Scope(c.a); got != c.want {
			t.Errorf("Scope(%v): %d, want %d", c.a, got, c.want)
		}
	}
	// All first two bytes, of either family and mapped.
	for n := range 1 << 16 {
		hi, lo := byte(n>>8), byte(n)
		for _, a := range []api.Addr{of4(hi, lo, 0, 1), of6(n, 0, 0, 0, 0, 0, 0, 1), mapped(hi, lo, 0, 1), of6(0, 0, 0, 0, 0, n, 0x7f00, 1), of6(0, 0, 0, 0, 0, 0, 0, n)} {
			if got, want := Scope(a), plainScope(a); got != want {
				t.Errorf("Scope(%v): %d, want %d", a, got, want)
			}
			if got, want := Multi(a), plainMulti(a); got != want {
				t.Errorf("Multi(%v): %v, want %v", a, got, want)
			}
		}
	}
}

// Promise 9.3.
func TestMulti(t *testing.T) {
	for _, c := range []struct {
		a    api.Addr
		want bool
	}{
		{of4(224, 0, 0, 0), true}, {of4(232, 1, 2, 3), true}, {of4(239, 255, 255, 255), true}, {of4(223, 255, 255, 255), false}, {of4(240, 0, 0, 0), false}, {of4(255, 255, 255, 255), false}, {of4(10, 0, 0, 1), false}, {of4(0, 0, 0, 0), false}, {in(3, with(15, 1, of4(224, 0, 0, 1))), true},
		{of6(0xff00), true}, {of6(0xff02, 0, 0, 0, 0, 0, 0, 1), true}, {in(3, of6(0xff02)), true}, {of6(0xffff), true}, {of6(0xfeff), false}, {of6(0xff), false}, {of6(0xe000), false}, {of6(), false},
		// What an address stands for is not asked here.
		{mapped(224, 0, 0, 1), false}, {mapped(255, 255, 255, 255), false},
		{api.Addr{}, false}, {as(5, of6(0xff02)), false}, {as(0, of4(224, 0, 0, 1)), false}, {as(-4, of4(224, 0, 0, 1)), false},
	} {
		if got := Multi(c.a); got != c.want {
			t.Errorf("Multi(%v): %v, want %v", c.a, got, c.want)
		}
	}
}

// ones is the name of ::1, and its first labels alone.
const (
	ones = "1.0.0.0.0.0.0.0.0.0.0.0.0.0.0.0.0.0.0.0.0.0.0.0.0.0.0.0.0.0.0.0.ip6.arpa"
	low  = "1.0.0.0.0.0.0.0.0.0.0.0.0.0.0.0.0.0.0.0.0.0.0.0.0.0.0.0.0.0.0."
)

// Promise 9.4, and example 1.
func TestReverse(t *testing.T) {
	for _, c := range []struct {
		a    api.Addr
		want api.Name
	}{
		{of4(192, 0, 2, 1), name("1.2.0.192.in-addr.arpa")},
		{of4(0, 0, 0, 0), name("0.0.0.0.in-addr.arpa")},
		{of4(255, 100, 10, 9), name("9.10.100.255.in-addr.arpa")},
		{in(4, with(4, 5, of4(1, 2, 3, 4))), name("4.3.2.1.in-addr.arpa")},
		{of6(0, 0, 0, 0, 0, 0, 0, 1), name(ones)},
		{in(7, of6(0, 0, 0, 0, 0, 0, 0, 1)), name(ones)},
		{of6(0x0123, 0x4567, 0x89ab, 0xcdef, 0xfedc, 0xba98, 0x7654, 0x3210), name("0.1.2.3.4.5.6.7.8.9.a.b.c.d.e.f.f.e.d.c.b.a.9.8.7.6.5.4.3.2.1.0.ip6.arpa")},
		{mapped(192, 0, 2, 1), name("1.0.2.0.0.0.0.c.f.f.f.f.0.0.0.0.0.0.0.0.0.0.0.0.0.0.0.0.0.0.0.0.ip6.arpa")},
		{api.Addr{}, nil},
		{as(5, of4(1, 2, 3, 4)), nil},
		{as(-6, of6(1)), nil},
	} {
		if got := Reverse(c.a); !slices.Equal(got, c.want) {
			t.Errorf("Reverse(%v): %q, want %q", c.a, got, c.want)
		}
	}
}

// Promise 9.4.
func TestUnreverse(t *testing.T) {
	for s, want := range map[string]api.Addr{
		"1.2.0.192.in-addr.arpa":       of4(192, 0, 2, 1),
		"1.2.0.192.IN-ADDR.ARPA":       of4(192, 0, 2, 1),
		"1.2.0.192.In-aDdr.arPa":       of4(192, 0, 2, 1),
		"0.0.0.0.in-addr.arpa":         of4(0, 0, 0, 0),
		"255.255.255.255.in-addr.arpa": of4(255, 255, 255, 255),
		"9.10.99.100.in-addr.arpa":     of4(100, 99, 10, 9),
		ones:                           of6(0, 0, 0, 0, 0, 0, 0, 1),
		strings.ToUpper(ones):          of6(0, 0, 0, 0, 0, 0, 0, 1),
		low + "F.Ip6.aRPA":             of6(0xf000, 0, 0, 0, 0, 0, 0, 1),
		"0.1.2.3.4.5.6.7.8.9.A.b.C.d.E.f.F.e.D.c.B.a.9.8.7.6.5.4.3.2.1.0.ip6.arpa": of6(0x0123, 0x4567, 0x89ab, 0xcdef, 0xfedc, 0xba98, 0x7654, 0x3210),
	} {
		if got, ok := Unreverse(name(s)); got != want || !ok {
			t.Errorf("Unreverse(%q): %v, %v, want %v", s, got, ok, want)
		}
		turned(t, name(s))
	}
}

// Promise 9.4: names that are none of an address.
func TestUnreverseNone(t *testing.T) {
	for _, n := range []api.Name{
		nil, {}, {""}, {"arpa"}, name("in-addr.arpa"), name("ip6.arpa"), name("www.example"), name("192.0.2.1"),
		// Too few labels, and too many.
		name("2.0.192.in-addr.arpa"), name("0.1.2.0.192.in-addr.arpa"), name("1.2.0.192.in-addr"), name("1.2.0.192.in-addr.arpa.x"), name("1.2.0.192.in-addr.arpa."), name("x.1.2.0.192.in-addr.arpa"), name("1.2.0.192.x.in-addr.arpa"),
		name(ones[2:]), name("0." + ones), name(ones + "."), name(low + "ip6.arpa"), name(low + "0.0.ip6.arpa"), name(low + "0.ip6"), slices.Repeat(api.Name{"1"}, 100000), slices.Repeat(api.Name{"0"}, 34), slices.Repeat(api.Name{"0"}, 6), slices.Repeat(api.Name{""}, 6), slices.Repeat(api.Name{""}, 34),
		// Other ends.
		name("1.2.0.192.ip6.arpa"), name("1.2.0.192.in-addr.example"), name("1.2.0.192.inaddr.arpa"), name("1.2.0.192.in_addr.arpa"), name("1.2.0.192.arpa.in-addr"), name("1.2.0.192..arpa"), name("1.2.0.192.in-addr.arpa\x00"), name("1.2.0.192.\u0131n-addr.arpa"), name("1.2.0.192.in-addr."),
		name(low + "0.in-addr.arpa"), name(low + "0.ip6.int"), name(low + "0.ip4.arpa"), name(low + "0.ip6.arp"), name(low + "0.ip66.arpa"), name(low + "0..arpa"), name(low + "0.1.2"),
		// Digits that are no byte's, or not as they are written.
		name("256.2.0.192.in-addr.arpa"), name("1.2.0.1000.in-addr.arpa"), name("1.2.0.4294967297.in-addr.arpa"), name("01.2.0.192.in-addr.arpa"), name("1.2.00.192.in-addr.arpa"), name("1.2.0.0192.in-addr.arpa"), name("1.2..192.in-addr.arpa"), name(".2.0.192.in-addr.arpa"), name("1.2.0..in-addr.arpa"), name("+1.2.0.192.in-addr.arpa"), name("-1.2.0.192.in-addr.arpa"), name("-0.2.0.192.in-addr.arpa"), name("a.2.0.192.in-addr.arpa"), name("0x1.2.0.192.in-addr.arpa"), name("1 .2.0.192.in-addr.arpa"), name("1.2.0.\u0661.in-addr.arpa"), name("1.2.0." + row(1000, "9") + ".in-addr.arpa"), name("1.2.0." + row(1000, "0") + "1.in-addr.arpa"), name("1.2.0.192/26.in-addr.arpa"),
		name(low + "g.ip6.arpa"), name(low + "00.ip6.arpa"), name(low + "01.ip6.arpa"), name(low + "10.ip6.arpa"), name(low + "0x.ip6.arpa"), name(low + ".ip6.arpa"), name(low + "-.ip6.arpa"), name(low + "x0.ip6.arpa"), name("." + ones[2:]), name("x" + ones[1:]), name("01" + ones[1:]), name(low + "\uff10.ip6.arpa"), name(low + row(1000, "0") + ".ip6.arpa"), name(row(31, "10.") + "10.ip6.arpa"),
		// Dots within labels are none between them.
		{"1.2.0.192.in-addr.arpa"}, {"1.2.0", "192", "in-addr", "arpa"}, {"1.2", "0", "192", "", "in-addr", "arpa"}, {"1", "2", "0", "192", "in-addr.arpa", ""}, {"", "1.2", "0", "192", "in-addr", "arpa"}, {ones}, {"1.2.0", "192", "3", "4", "in-addr", "arpa"},
	} {
		if got, ok := Unreverse(n); got != (api.Addr{}) || ok {
			t.Errorf("Unreverse(%.80q): %v, %v", n, got, ok)
		}
		turned(t, n)
	}
}

// Promise 9.4: each label in turn is each short text, and each byte stands in it, ahead of it and behind it.
func TestUnreverseLabels(t *testing.T) {
	texts := []string{""}
	for b := range 256 {
		s := string([]byte{byte(b)})
		texts = append(texts, s, "1"+s, s+"1", "0"+s, "in-addr"+s, "ip"+s, s+"rpa", "IN"+s+"ADDR")
	}
	for n := range 1200 {
		texts = append(texts, fmt.Sprint(n), fmt.Sprintf("%x", n), fmt.Sprintf("%02X", n))
	}
	for _, n := range []api.Name{name("1.2.3.4.in-addr.arpa"), name(ones)} {
		for at := range n {
			for _, s := range texts {
				m := slices.Clone(n)
				m[at] = s
				turned(t, m)
			}
			turned(t, slices.Delete(slices.Clone(n), at, at+1))
			turned(t, slices.Insert(slices.Clone(n), at, "0"))
			turned(t, slices.Insert(slices.Clone(n), at, ""))
		}
	}
}

// Promise 9.5: each byte at each place of either family.
func TestUndone(t *testing.T) {
	for b := range 256 {
		c := byte(b)
		for at := range 16 {
			for _, zone := range []int{0, 1, 1<<31 - 1} {
				asked(t, in(zone, with(at, c, of6())))
				asked(t, in(zone, with(at, c, mapped(1, 2, 3, 4))))
				asked(t, in(zone, with(at, c, of6(0x102, 0x304, 0x506, 0x708, 0x90a, 0xb0c, 0xd0e, 0xf10))))
			}
		}
		for at := range 4 {
			asked(t, with(at, c, of4(0, 0, 0, 0)))
			asked(t, with(at, c, of4(9, 10, 99, 255)))
		}
	}
}

// Rules: an answer is new memory each time.
func TestNewMemory(t *testing.T) {
	for _, a := range []api.Addr{of4(1, 2, 3, 4), of6(1, 2, 3, 4, 5, 6, 7, 8)} {
		n := Reverse(a)
		for i := range n {
			n[i] = "changed"
		}
		_ = append(n, "changed")
		if got := Reverse(a); !slices.Equal(got, plainReverse(a)) {
			t.Errorf("Reverse(%v): %q", a, got)
		}
	}
}

// P1: whatever the arguments, every call ends and tells what the plain ways tell.
func FuzzAddr(f *testing.F) {
	for _, s := range []string{"", ":", "::", "1.2.3.4", "127.1", "fe80::1%3", "::ffff:1.2.3.4", "::1%0", "1.2.3.4%:", "1.2.0.192.in-addr.arpa", ones} {
		f.Add(s, []byte(s), []byte{127, 0, 0, 1}, 6, 0, 8)
		f.Add(s, []byte{0xfe, 0x80}, []byte(s), 4, 1, 32)
	}
	f.Fuzz(func(t *testing.T, s string, x, y []byte, family, zone, bits int) {
		read(t, s)
		turned(t, name(s))
		a, b := api.Addr{Family: family, Zone: zone}, api.Addr{Family: family, Zone: bits}
		copy(a.IP[:], x)
		copy(b.IP[:], y)
		l := []api.Addr{a, b, as(6, a), as(6, in(0, b)), as(4, a), of4(a.IP[0], a.IP[1], a.IP[2], a.IP[3]), mapped(a.IP[0], a.IP[1], a.IP[2], a.IP[3]), of4(b.IP[0], b.IP[1], b.IP[2], b.IP[3])}
		for _, a := range l {
			asked(t, a)
			for _, b := range l {
				held(t, a, b)
				fits(t, a, api.Prefix{Addr: b, Bits: bits})
				fits(t, a, api.Prefix{Addr: b, Bits: Common(a, b)})
				fits(t, a, api.Prefix{Addr: b, Bits: Common(a, b) + 1})
			}
		}
	})
}
