package rdata

import (
	"encoding/binary"
	"fmt"
	"reflect"
	"slices"
	"strings"
	"testing"

	"wayfinder/api"
	"wayfinder/packed"
)

const (
	mostInt  = 1<<63 - 1
	leastInt = -mostInt - 1
)

// kinds are types of each kind of data, those beside them, and such as may not be; classes likewise.
var (
	kinds   = []int{leastInt, -65535, -1, 0, 1, 2, 4, 5, 6, 7, 11, 12, 13, 16, 27, 28, 29, 32, 33, 34, 41, 257, 65535, 65536, 65537, 65536 + 33, 1<<32 + 1, mostInt}
	classes = []int{leastInt, -1, 0, 1, 2, 3, 4, 254, 255, 257, 65535, 65536, 65537, 1<<32 + 1, mostInt}
)

// words and longs are numbers at the edges of what two octets hold, and four, and such as may not be.
var (
	words = []int{leastInt, -1 << 32, -65536, -1, 0, 1, 255, 256, 257, 32767, 32768, 65534, 65535, 65536, 65537, 1 << 31, 1 << 32, 1<<32 + 1, mostInt}
	longs = []int{leastInt, -1 << 32, -1, 0, 1, 255, 65535, 65536, 1<<31 - 1, 1 << 31, 1<<32 - 2, 1<<32 - 1, 1 << 32, 1<<32 + 1, 1 << 48, mostInt}
)

// offsets are such as may be, up to the edge of what a pointer tells, and such as may not.
var offsets = []int{leastInt, -16384, -8, -3, -1, 0, 1, 12, 255, 256, 0x3ff0, 0x3ffa, 0x3ffb, 0x3ffc, 0x3ffd, 0x3ffe, 0x3fff, 0x4000, 0x4001, 0xffff, 1 << 32, mostInt - 3, mostInt}

// fields are what data may be made of, in the order in which Addr comes first and Raw last.
const fields = "Addr Target Mail Pri Weight Port Nums Raw"

// plainHas is what a record has, by another way: the fields, in the order of the data.
func plainHas(kind, class int) []string {
	if class == 1 {
		switch kind {
		case 1, 28:
			return []string{"Addr"}
		case 5, 12:
			return []string{"Target"}
		case 6:
			return []string{"Target", "Mail", "Nums"}
		case 33:
			return []string{"Pri", "Weight", "Port", "Target"}
		}
	}
	return []string{"Raw"}
}

// plainName is what is wrong with a name.
func plainName(n api.Name) api.Errno {
	for _, l := range n {
		if len(l) < 1 || len(l) > 63 {
			return 7
		}
	}
	if len(wire(n)) > 255 {
		return 3
	}
	return 0
}

// plainField is what is wrong with a field that a record has.
func plainField(r api.RR, field string) api.Errno {
	wrong := false
	switch field {
	case "Target":
		return plainName(r.Target)
	case "Mail":
		return plainName(r.Mail)
	case "Addr":
		want := api.Addr{Family: 4}
		copy(want.IP[:4], r.Addr.IP[:])
		if r.Type == 28 {
			want = api.Addr{Family: 6, IP: r.Addr.IP}
		}
		if r.Addr != want {
			return 10
		}
	case "Pri":
		wrong = r.Pri != int(uint16(r.Pri))
	case "Weight":
		wrong = r.Weight != int(uint16(r.Weight))
	case "Port":
		wrong = r.Port != int(uint16(r.Port))
	case "Nums":
		wrong = slices.ContainsFunc(r.Nums[:], func(n int) bool { return n != int(uint32(n)) })
	case "Raw":
		if len(r.Raw) >= 65536 {
			return 3
		}
	}
	if wrong {
		return 4
	}
	return 0
}

// plainZero is whether a field is zero.
func plainZero(r api.RR, field string) bool {
	f := reflect.ValueOf(r).FieldByName(field)
	return f.IsZero() || f.Kind() == reflect.Slice && f.Len() == 0
}

// plainCheck is Check by another way: field by field, by its word.
func plainCheck(r api.RR) api.Errno {
	if e := plainName(r.Name); e != 0 {
		return e
	}
	if r.Type != int(uint16(r.Type)) || r.Class != int(uint16(r.Class)) || r.TTL != int(uint32(r.TTL)) {
		return 4
	}
	has := plainHas(r.Type, r.Class)
	for _, f := range has {
		if e := plainField(r, f); e != 0 {
			return e
		}
	}
	for _, f := range strings.Fields(fields) {
		if !slices.Contains(has, f) && !plainZero(r, f) {
			return 5
		}
	}
	return 0
}

// plainPut is Put by another way: field by field, by its word, with the library's own numbers in octets.
func plainPut(r api.RR, at int, t *packed.Table) (string, api.Errno) {
	if e := plainCheck(r); e != 0 {
		return "", e
	}
	var out []byte
	for _, f := range plainHas(r.Type, r.Class) {
		switch f {
		case "Addr":
			out = append(out, r.Addr.IP[:]...)
			if r.Type == 1 {
				out = out[:4]
			}
		case "Pri":
			out = binary.BigEndian.AppendUint16(out, uint16(r.Pri))
		case "Weight":
			out = binary.BigEndian.AppendUint16(out, uint16(r.Weight))
		case "Port":
			out = binary.BigEndian.AppendUint16(out, uint16(r.Port))
		case "Nums":
			for _, n := range r.Nums {
				out = binary.BigEndian.AppendUint32(out, uint32(n))
			}
		case "Raw":
			out = append(out, r.Raw...)
		case "Target":
			if r.Type == 33 {
				out = append(out, wire(r.Target)...)
				continue
			}
			s, _ := t.Put(r.Target, at)
			out = append(out, s...)
		case "Mail":
			s, _ := t.Put(r.Mail, at+len(out))
			out = append(out, s...)
		}
	}
	return string(out), 0
}

// plainRead is a name by another way: by places in the octets up to the data's end, and what is behind it.
func plainRead(msg string, at int) (api.Name, int, api.Errno) {
	var n api.Name
	end, short := -1, api.ErrForm
	size := 1
	for i, bound := at, at; ; {
		if i >= len(msg) {
			return nil, 0, short
		}
		c := int(msg[i])
		switch {
		case c == 0:
			if end < 0 {
				end = i + 1
			}
			return n, end, 0
		case c < 64:
			if i+1+c > len(msg) {
				return nil, 0, short
			}
			if size += c + 1; size > 255 {
				return nil, 0, 3
			}
			n = append(n, msg[i+1:i+1+c])
			i += c + 1
		case c < 192:
			return nil, 0, 7
		default:
			if i+1 >= len(msg) {
				return nil, 0, short
			}
			if end < 0 {
				end = i + 2
			}
			to := c%64*256 + int(msg[i+1])
			if to >= bound {
				return nil, 0, 9
			}
			// What is short from here on is no octet of the name's own.
			i, bound, short = to, to, api.ErrShort
		}
	}
}

// plainGet is Get by another way: by places, field by field.
func plainGet(msg string, at, n, kind, class int) (api.RR, api.Errno) {
	if at < 0 || n < 0 || len(msg) < at || len(msg)-at < n {
		return api.RR{}, 4
	}
	msg = msg[:at+n]
	r := api.RR{Type: kind, Class: class}
	num := func(width int) int {
		if len(msg)-at < width {
			at = len(msg) + 1
			return 0
		}
		v := 0
		for range width {
			v = v*256 + int(msg[at])
			at++
		}
		return v
	}
	for _, f := range plainHas(kind, class) {
		var e api.Errno
		switch f {
		case "Addr":
			if r.Addr.Family = 4; kind == 28 {
				r.Addr.Family = 6
			}
			if n != map[int]int{1: 4, 28: 16}[kind] {
				return api.RR{}, 5
			}
			copy(r.Addr.IP[:], msg[at:])
			at += n
		case "Pri":
			r.Pri = num(2)
		case "Weight":
			r.Weight = num(2)
		case "Port":
			r.Port = num(2)
		case "Nums":
			for i := range r.Nums {
				r.Nums[i] = num(4)
			}
		case "Raw":
			r.Raw = msg[at:]
			at = len(msg)
		case "Target":
			r.Target, at, e = plainRead(msg, at)
		case "Mail":
			r.Mail, at, e = plainRead(msg, at)
		}
		if e != 0 {
			return api.RR{}, e
		}
	}
	if at != len(msg) {
		return api.RR{}, 5
	}
	return r, 0
}

// wire are a name's octets, without a pointer.
func wire(n api.Name) string {
	s := ""
	for _, l := range n {
		s += string([]byte{byte(len(l))}) + l
	}
	return s + "\x00"
}

// sized is a name of that size, of labels that are as long as may be.
func sized(size int) api.Name {
	var n api.Name
	for left := size - 1; left > 1; {
		l := min(left-1, 63)
		// One octet alone would be left, and no label takes that.
		if left-1-l == 1 {
			l--
		}
		n = append(n, strings.Repeat("x", l))
		left -= l + 1
	}
	return n
}

// clone is a record that shares no list with another one.
func clone(r api.RR) api.RR {
	r.Name, r.Target, r.Mail = slices.Clone(r.Name), slices.Clone(r.Target), slices.Clone(r.Mail)
	return r
}

// same is whether two records are one; nil and empty are one there.
func same(a, b api.RR) bool {
	if !slices.Equal(a.Name, b.Name) || !slices.Equal(a.Target, b.Target) || !slices.Equal(a.Mail, b.Mail) {
		return false
	}
	a.Name, a.Target, a.Mail = nil, nil, nil
	b.Name, b.Target, b.Mail = nil, nil, nil
	return reflect.DeepEqual(a, b)
}

// checks holds Check against the plain way, and is what it tells.
func checks(t *testing.T, r api.RR) api.Errno {
	t.Helper()
	given := clone(r)
	e := Check(r)
	if we := plainCheck(r); e != we {
		t.Errorf("Check(%s): %v, want %v", text(r), e, we)
	}
	if !same(r, given) {
		t.Errorf("%s was written into: %s", text(given), text(r))
	}
	return e
}

// puts holds Put against the plain way, by two tables that have the same, and is its octets.
func puts(t *testing.T, r api.RR, at int, p, plain *packed.Table) (string, api.Errno) {
	t.Helper()
	given := clone(r)
	s, e := Put(r, at, p)
	if ws, we := plainPut(r, at, plain); s != ws || e != we {
		t.Errorf("Put(%s, %d): %.80q, %v, want %.80q, %v", text(r), at, s, e, ws, we)
	}
	if !same(r, given) {
		t.Errorf("%s was written into: %s", text(given), text(r))
	}
	return s, e
}

// gets holds Get against the plain way, and is what it tells.
func gets(t *testing.T, msg string, at, n, kind, class int) (api.RR, api.Errno) {
	t.Helper()
	r, e := Get(msg, at, n, kind, class)
	if w, we := plainGet(msg, at, n, kind, class); !same(r, w) || e != we {
		t.Errorf("Get(%.80q, %d, %d, %d, %d): %s, %v, want %s, %v", msg, at, n, kind, class, text(r), e, text(w), we)
	}
	if e != api.OK && !same(r, api.RR{}) {
		t.Errorf("Get(%.80q, %d, %d, %d, %d): %s beside %v", msg, at, n, kind, class, text(r), e)
	}
	return r, e
}

// text is a record, for what a test tells.
func text(r api.RR) string {
	return fmt.Sprintf("{%.40q type %d class %d ttl %d, %v, %.40q %.40q %d %d %d %d %.40q}", r.Name, r.Type, r.Class, r.TTL, r.Addr, r.Target, r.Mail, r.Pri, r.Weight, r.Port, r.Nums, r.Raw)
}

// undone puts a record behind some octets, with more behind it, and gets it again (13.4).
func undone(t *testing.T, ahead string, r api.RR, p *packed.Table) {
	t.Helper()
	s, e := Put(r, len(ahead), p)
	if e != api.OK {
		t.Errorf("%s: %v", text(r), e)
		return
	}
	want := clone(r)
	want.Name, want.TTL = nil, 0
	for _, behind := range []string{"", "\x00", "\x01a\x00", "\xc0\x00"} {
		if g, e := gets(t, ahead+s+behind, len(ahead), len(s), r.Type, r.Class); !same(g, want) || e != api.OK {
			t.Errorf("%s at %d: %s, %v", text(r), len(ahead), text(g), e)
		}
	}
}

// v4 and v6 are addresses of both families.
func v4(a, b, c, d byte) api.Addr {
	return api.Addr{Family: api.Inet, IP: [16]byte{a, b, c, d}}
}

func v6(ip ...byte) api.Addr {
	a := api.Addr{Family: api.Inet6}
	copy(a.IP[:], ip)
	return a
}

// records are ordinary ones and ones at the edges, all of which may be.
func records() []api.RR {
	ab := api.Name{"a", "b"}
	return []api.RR{
		{},
		{Name: ab, Type: api.TypeA, Class: api.ClassIN, TTL: 60, Addr: v4(192, 0, 2, 1)},
		{Type: api.TypeA, Class: api.ClassIN, Addr: v4(0, 0, 0, 0)},
		{Type: api.TypeA, Class: api.ClassIN, Addr: v4(255, 255, 255, 255)},
		{Name: ab, Type: api.TypeAAAA, Class: api.ClassIN, TTL: 1<<32 - 1, Addr: v6(0x20, 1, 0xd, 0xb8, 4, 5, 6, 7, 8, 9, 10, 11, 12, 13, 14, 15)},
		{Type: api.TypeAAAA, Class: api.ClassIN, Addr: v6()},
		{Type: api.TypeAAAA, Class: api.ClassIN, Addr: v6(0, 0, 0, 0, 0, 0, 0, 0, 0, 0, 255, 255, 192, 0, 2, 1)},
		{Name: ab, Type: api.TypeCNAME, Class: api.ClassIN, Target: api.Name{"c", "b"}},
		{Name: ab, Type: api.TypeCNAME, Class: api.ClassIN, Target: ab},
		{Type: api.TypeCNAME, Class: api.ClassIN},
		{Name: sized(255), Type: api.TypePTR, Class: api.ClassIN, Target: sized(255)},
		{Type: api.TypePTR, Class: api.ClassIN, Target: api.Name{"\x00.\\\xff", "B"}},
		{Name: ab, Type: api.TypeSRV, Class: api.ClassIN, TTL: 1, Pri: 10, Weight: 20, Port: 5060, Target: ab},
		{Type: api.TypeSRV, Class: api.ClassIN},
		{Type: api.TypeSRV, Class: api.ClassIN, Pri: 65535, Weight: 65535, Port: 65535, Target: sized(255)},
		{Name: ab, Type: api.TypeSOA, Class: api.ClassIN, Target: api.Name{"ns", "a", "b"}, Mail: api.Name{"me", "a", "b"}, Nums: [5]int{2026, 3600, 600, 86400, 60}},
		{Type: api.TypeSOA, Class: api.ClassIN, Target: ab, Mail: ab, Nums: [5]int{1<<32 - 1, 1<<32 - 1, 1<<32 - 1, 1<<32 - 1, 1<<32 - 1}},
		{Type: api.TypeSOA, Class: api.ClassIN},
		{Type: api.TypeSOA, Class: api.ClassIN, Target: sized(255), Mail: sized(254), Nums: [5]int{0, 1, 2, 3, 4}},
		{Type: 16, Class: api.ClassIN, Raw: "\x03txt"},
		{Type: api.TypeOPT, Class: 1232, TTL: 1 << 15},
		{Type: api.TypeA, Class: 3, Raw: "\x01\x02\x03"},
		{Type: api.TypeSOA, Class: 255, Raw: "\xc0\x00"},
		{Type: api.TypeSRV, Class: 0},
		{Type: 65535, Class: 65535, Raw: strings.Repeat("\xff", 65535)},
	}
}

// Promise 13.2: the document's example.
func TestExample(t *testing.T) {
	r := api.RR{Type: api.TypeSRV, Class: api.ClassIN, Pri: 10, Weight: 20, Port: 5060, Target: api.Name{"a", "b"}}
	s, e := Put(r, 0, nil)
	if s != "\x00\x0a\x00\x14\x13\xc4\x01a\x01b\x00" || e != api.OK {
		t.Errorf("%q, %v", s, e)
	}
	if g, e := Get(s, 0, len(s), api.TypeSRV, api.ClassIN); !same(g, r) || e != api.OK {
		t.Errorf("%s, %v", text(g), e)
	}
}

// Promise 13.1: records that may be, and each of them with one field more that it does not have.
func TestHas(t *testing.T) {
	more := map[string]func(*api.RR){
		"Addr":   func(r *api.RR) { r.Addr = v4(1, 2, 3, 4) },
		"Target": func(r *api.RR) { r.Target = api.Name{"x"} },
		"Mail":   func(r *api.RR) { r.Mail = api.Name{"x"} },
		"Pri":    func(r *api.RR) { r.Pri = 1 },
		"Weight": func(r *api.RR) { r.Weight = 1 },
		"Port":   func(r *api.RR) { r.Port = 1 },
		"Nums":   func(r *api.RR) { r.Nums[4] = 1 },
		"Raw":    func(r *api.RR) { r.Raw = "x" },
	}
	for _, r := range records() {
		if e := checks(t, r); e != api.OK {
			t.Errorf("%s: %v", text(r), e)
		}
		for _, f := range strings.Fields(fields) {
			with := clone(r)
			more[f](&with)
			e := checks(t, with)
			if !slices.Contains(plainHas(r.Type, r.Class), f) && e != api.ErrForm {
				t.Errorf("%s: %v", text(with), e)
			}
		}
	}
}

// Promise 13.1: whatever a record does not have, it is ErrForm, even if it may not be itself; an empty list is a root.
func TestHasNot(t *testing.T) {
	for _, c := range []struct {
		r    api.RR
		want api.Errno
	}{
		{api.RR{Type: 99, Class: 1, Pri: -1}, api.ErrForm},
		{api.RR{Type: 99, Class: 1, Weight: 65536}, api.ErrForm},
		{api.RR{Type: 99, Class: 1, Port: mostInt}, api.ErrForm},
		{api.RR{Type: 99, Class: 1, Target: api.Name{""}}, api.ErrForm},
		{api.RR{Type: 99, Class: 1, Mail: sized(256)}, api.ErrForm},
		{api.RR{Type: 99, Class: 1, Addr: api.Addr{Family: 5}}, api.ErrForm},
		{api.RR{Type: 99, Class: 1, Addr: api.Addr{Zone: 1}}, api.ErrForm},
		{api.RR{Type: 99, Class: 1, Addr: api.Addr{IP: [16]byte{15: 1}}}, api.ErrForm},
		{api.RR{Type: 99, Class: 1, Nums: [5]int{-1}}, api.ErrForm},
		{api.RR{Type: 99, Class: 1, Nums: [5]int{0, 0, 1 << 32}}, api.ErrForm},
		{api.RR{Type: 5, Class: 1, Raw: strings.Repeat("x", 65536)}, api.ErrForm},
		{api.RR{Type: 5, Class: 1, Mail: api.Name{"a"}, Target: api.Name{"a"}}, api.ErrForm},
		{api.RR{Type: 33, Class: 1, Mail: api.Name{"a"}, Target: api.Name{"a"}}, api.ErrForm},
		{api.RR{Type: 1, Class: 1, Addr: v4(1, 2, 3, 4), Raw: "\x01\x02\x03\x04"}, api.ErrForm},
		{api.RR{Type: 1, Class: 3, Addr: v4(1, 2, 3, 4)}, api.ErrForm},
		{api.RR{Type: 33, Class: 4, Port: 1}, api.ErrForm},
		{api.RR{Type: 6, Class: 0, Target: api.Name{"a"}}, api.ErrForm},
		{api.RR{Type: 99, Class: 1, Target: api.Name{}, Mail: api.Name{}}, api.OK},
		{api.RR{Name: api.Name{}, Type: 1, Class: 1, Addr: v4(0, 0, 0, 1), Target: api.Name{}, Mail: api.Name{}}, api.OK},
		{api.RR{Type: 5, Class: 1, Target: api.Name{}, Mail: api.Name{}}, api.OK},
	} {
		if e := checks(t, c.r); e != c.want {
			t.Errorf("%s: %v, want %v", text(c.r), e, c.want)
		}
	}
}

// Promise 13.1: each number at its edges, in each kind of record.
func TestNumbers(t *testing.T) {
	for _, r := range records() {
		for _, n := range words {
			for _, set := range []func(*api.RR){
				func(r *api.RR) { r.Type = n }, func(r *api.RR) { r.Class = n },
				func(r *api.RR) { r.Pri = n }, func(r *api.RR) { r.Weight = n }, func(r *api.RR) { r.Port = n },
			} {
				with := clone(r)
				set(&with)
				checks(t, with)
			}
		}
		for _, n := range longs {
			with := clone(r)
			with.TTL = n
			if e := checks(t, with); n >= 0 && n <= 4294967295 && e != api.OK || (n < 0 || n > 4294967295) && e != api.ErrRange {
				t.Errorf("TTL %d: %v", n, e)
			}
			for i := range r.Nums {
				with := clone(r)
				with.Nums[i] = n
				checks(t, with)
			}
		}
	}
	for _, k := range kinds {
		for _, c := range classes {
			checks(t, api.RR{Type: k, Class: c})
			checks(t, api.RR{Type: k, Class: c, Raw: "x"})
			checks(t, api.RR{Type: k, Class: c, Addr: v4(1, 2, 3, 4)})
			checks(t, api.RR{Type: k, Class: c, Addr: v6(1, 2, 3, 4)})
			checks(t, api.RR{Type: k, Class: c, Target: api.Name{"a"}})
		}
	}
}

// Promise 13.1: addresses that may not be, or not in such a record, are all of one error.
func TestAddresses(t *testing.T) {
	zone := func(a api.Addr, z int) api.Addr {
		a.Zone = z
		return a
	}
	four, six := v4(192, 0, 2, 1), v6(0xfe, 0x80, 0, 0, 0, 0, 0, 0, 0, 0, 0, 0, 0, 0, 0, 1)
	for _, c := range []struct {
		a            api.Addr
		inet4, inet6 api.Errno
	}{
		{four, api.OK, api.ErrKind},
		{six, api.ErrKind, api.OK},
		{api.Addr{}, api.ErrKind, api.ErrKind},
		{api.Addr{Family: 5}, api.ErrKind, api.ErrKind},
		{api.Addr{Family: -4, IP: four.IP}, api.ErrKind, api.ErrKind},
		{api.Addr{Family: 1<<32 + 4}, api.ErrKind, api.ErrKind},
		{zone(four, 1), api.ErrKind, api.ErrKind},
		{zone(four, -1), api.ErrKind, api.ErrKind},
		{zone(six, 1), api.ErrKind, api.ErrKind},
		{zone(six, -1), api.ErrKind, api.ErrKind},
		{zone(six, 1<<31-1), api.ErrKind, api.ErrKind},
		{zone(six, 1<<31), api.ErrKind, api.ErrKind},
		{api.Addr{Family: 4, IP: [16]byte{4: 1}}, api.ErrKind, api.ErrKind},
		{api.Addr{Family: 4, IP: [16]byte{15: 1}}, api.ErrKind, api.ErrKind},
		{v4(0, 0, 0, 0), api.OK, api.ErrKind},
		{v6(), api.ErrKind, api.OK},
	} {
		for kind, want := range map[int]api.Errno{api.TypeA: c.inet4, api.TypeAAAA: c.inet6} {
			if e := checks(t, api.RR{Type: kind, Class: 1, Addr: c.a}); e != want {
				t.Errorf("type %d, %v: %v, want %v", kind, c.a, e, want)
			}
		}
	}
}

// Promise 13.1: names that may not be, and octets that are too many, at their edges.
func TestNamesAndRaw(t *testing.T) {
	for _, c := range []struct {
		n    api.Name
		want api.Errno
	}{
		{nil, api.OK}, {api.Name{}, api.OK}, {api.Name{"a"}, api.OK}, {sized(255), api.OK}, {api.Name{strings.Repeat("x", 63)}, api.OK},
		{api.Name{""}, api.ErrLabel}, {api.Name{"a", ""}, api.ErrLabel}, {api.Name{"", "a"}, api.ErrLabel}, {api.Name{strings.Repeat("x", 64)}, api.ErrLabel},
		{sized(256), api.ErrLong}, {append(sized(256), ""), api.ErrLabel}, {slices.Repeat([]string{"b"}, 128), api.ErrLong},
	} {
		for _, r := range records() {
			r = clone(r)
			r.Name = c.n
			if e := checks(t, r); e != c.want {
				t.Errorf("%s: %v, want %v", text(r), e, c.want)
			}
		}
		for _, r := range []api.RR{
			{Type: 5, Class: 1, Target: c.n}, {Type: 12, Class: 1, Target: c.n}, {Type: 33, Class: 1, Target: c.n}, {Type: 6, Class: 1, Target: c.n}, {Type: 6, Class: 1, Mail: c.n},
		} {
			if e := checks(t, r); e != c.want {
				t.Errorf("%s: %v, want %v", text(r), e, c.want)
			}
		}
	}
	for n, want := range map[int]api.Errno{0: api.OK, 1: api.OK, 65534: api.OK, 65535: api.OK, 65536: api.ErrLong, 65537: api.ErrLong, 1 << 17: api.ErrLong} {
		for _, r := range []api.RR{{Type: 99, Class: 1}, {Type: 1, Class: 3}, {Type: 6, Class: 0}, {Type: 0, Class: 65535}} {
			r.Raw = strings.Repeat("x", n)
			if e := checks(t, r); e != want {
				t.Errorf("%d octets: %v, want %v", n, e, want)
			}
		}
	}
}

// Promise 13.1: of several faults the one that is named first is told: each pair, in records of each kind.
func TestOrder(t *testing.T) {
	type fault struct {
		set  func(*api.RR)
		want api.Errno
	}
	name := fault{func(r *api.RR) { r.Name = api.Name{""} }, api.ErrLabel}
	longer := fault{func(r *api.RR) { r.Name = sized(256) }, api.ErrLong}
	ttl := fault{func(r *api.RR) { r.TTL = 1 << 32 }, api.ErrRange}
	address := fault{func(r *api.RR) { r.Addr = api.Addr{Family: 6, Zone: -1} }, api.ErrKind}
	target := fault{func(r *api.RR) { r.Target = api.Name{""} }, api.ErrLabel}
	farther := fault{func(r *api.RR) { r.Target = sized(256) }, api.ErrLong}
	mail := fault{func(r *api.RR) { r.Mail = api.Name{"a", ""} }, api.ErrLabel}
	mails := fault{func(r *api.RR) { r.Mail = sized(256) }, api.ErrLong}
	pri := fault{func(r *api.RR) { r.Pri = 65536 }, api.ErrRange}
	weight := fault{func(r *api.RR) { r.Weight = -1 }, api.ErrRange}
	port := fault{func(r *api.RR) { r.Port = 65536 }, api.ErrRange}
	nums := fault{func(r *api.RR) { r.Nums[2] = 1 << 32 }, api.ErrRange}
	octets := fault{func(r *api.RR) { r.Raw = strings.Repeat("x", 65536) }, api.ErrLong}
	as := func(f fault, e api.Errno) fault { return fault{f.set, e} }
	form := func(f fault) fault { return as(f, api.ErrForm) }
	for _, c := range []struct {
		r      api.RR
		faults []fault
	}{
		{api.RR{Type: 1, Class: 1, Addr: v4(1, 2, 3, 4)}, []fault{name, ttl, address, form(target), form(mails), form(pri), form(weight), form(port), form(nums), form(octets)}},
		{api.RR{Type: 28, Class: 1, Addr: v6(1, 2, 3, 4)}, []fault{longer, ttl, address, form(farther), form(mail), form(pri), form(weight), form(port), form(nums), form(octets)}},
		{api.RR{Type: 5, Class: 1}, []fault{name, ttl, target, form(address), form(mails), form(port), form(nums), form(octets)}},
		{api.RR{Type: 12, Class: 1}, []fault{name, ttl, farther, form(address), form(mail), form(port), form(nums), form(octets)}},
		{api.RR{Type: 33, Class: 1}, []fault{name, ttl, pri, weight, port, target, form(address), form(mails), form(nums), form(octets)}},
		{api.RR{Type: 33, Class: 1}, []fault{longer, ttl, pri, weight, port, farther, form(address), form(mail), form(nums), form(octets)}},
		{api.RR{Type: 6, Class: 1}, []fault{name, ttl, farther, mail, nums, form(address), form(pri), form(weight), form(port), form(octets)}},
		{api.RR{Type: 6, Class: 1}, []fault{longer, ttl, target, mails, nums, form(address), form(pri), form(weight), form(port), form(octets)}},
		{api.RR{Type: 99, Class: 1}, []fault{longer, ttl, octets, form(address), form(target), form(mail), form(pri), form(weight), form(port), form(nums)}},
		{api.RR{Type: 1, Class: 3}, []fault{name, ttl, octets, form(address), form(target), form(mail), form(pri), form(weight), form(port), form(nums)}},
		// Of what kind it were can't be told, as one of both is out of range.
		{api.RR{Type: -1, Class: 1}, []fault{name, as(octets, api.ErrRange), as(address, api.ErrRange), as(target, api.ErrRange)}},
		{api.RR{Type: 6, Class: 65536}, []fault{longer, as(octets, api.ErrRange), as(mail, api.ErrRange), as(nums, api.ErrRange)}},
	} {
		for i, f := range c.faults {
			for _, g := range c.faults[i:] {
				r := c.r
				f.set(&r)
				g.set(&r)
				if e := checks(t, r); e != f.want {
					t.Errorf("%s: %v, want %v", text(r), e, f.want)
				}
				if s, e := Put(r, 0, nil); s != "" || e != f.want {
					t.Errorf("%s: %q, %v, want %v", text(r), s, e, f.want)
				}
			}
		}
	}
}

// Promise 13.2: each kind's data, without a table.
func TestPut(t *testing.T) {
	for _, c := range []struct {
		r    api.RR
		want string
	}{
		{api.RR{Type: 1, Class: 1, Addr: v4(192, 0, 2, 1)}, "\xc0\x00\x02\x01"},
		{api.RR{Type: 28, Class: 1, Addr: v6(0, 1, 2, 3, 4, 5, 6, 7, 8, 9, 10, 11, 12, 13, 14, 15)}, "\x00\x01\x02\x03\x04\x05\x06\x07\x08\x09\x0a\x0b\x0c\x0d\x0e\x0f"},
		{api.RR{Type: 5, Class: 1, Target: api.Name{"a", "bc"}}, "\x01a\x02bc\x00"},
		{api.RR{Type: 5, Class: 1}, "\x00"},
		{api.RR{Type: 12, Class: 1, Target: api.Name{"a", "bc"}}, "\x01a\x02bc\x00"},
		{api.RR{Type: 33, Class: 1}, "\x00\x00\x00\x00\x00\x00\x00"},
		{api.RR{Type: 33, Class: 1, Pri: 1, Weight: 256, Port: 65535, Target: api.Name{"a"}}, "\x00\x01\x01\x00\xff\xff\x01a\x00"},
		{api.RR{Type: 6, Class: 1, Target: api.Name{"a"}, Mail: api.Name{"b"}, Nums: [5]int{1, 256, 65536, 1 << 24, 1<<32 - 1}}, "\x01a\x00\x01b\x00\x00\x00\x00\x01\x00\x00\x01\x00\x00\x01\x00\x00\x01\x00\x00\x00\xff\xff\xff\xff"},
		{api.RR{Type: 6, Class: 1, Target: api.Name{"a"}, Mail: api.Name{"a"}}, "\x01a\x00\x01a\x00" + strings.Repeat("\x00", 20)},
		{api.RR{Type: 16, Class: 1, Raw: "\x03txt"}, "\x03txt"},
		{api.RR{Type: 1, Class: 3, Raw: "\x01"}, "\x01"},
		{api.RR{Type: 41, Class: 1232}, ""},
		{api.RR{}, ""},
	} {
		for _, at := range offsets {
			if s, e := puts(t, c.r, at, nil, nil); s != c.want || e != api.OK {
				t.Errorf("Put(%s, %d): %q, %v, want %q", text(c.r), at, s, e, c.want)
			}
		}
	}
}

// Promise 13.2: what is put by a table, and what comes into it, at the right offsets.
func TestPutTable(t *testing.T) {
	ab := api.Name{"a", "b"}
	none := strings.Repeat("\x00", 20)
	for what, c := range map[string]struct {
		before api.Name // put at 12 ahead of all
		r      api.RR
		at     int
		want   string
		then   map[string]api.Name // names that are put after it, by their octets
	}{
		"a CNAME takes a pointer":         {ab, api.RR{Type: 5, Class: 1, Target: api.Name{"c", "b"}}, 40, "\x01c\xc0\x0e", map[string]api.Name{"\xc0\x28": {"c", "b"}}},
		"a PTR takes a pointer":           {ab, api.RR{Type: 12, Class: 1, Target: ab}, 40, "\xc0\x0c", map[string]api.Name{"\xc0\x0c": ab}},
		"a CNAME's come into it":          {nil, api.RR{Type: 5, Class: 1, Target: ab}, 40, "\x01a\x01b\x00", map[string]api.Name{"\xc0\x28": ab, "\xc0\x2a": {"b"}}},
		"a PTR's come into it":            {nil, api.RR{Type: 12, Class: 1, Target: ab}, 40, "\x01a\x01b\x00", map[string]api.Name{"\xc0\x28": ab, "\xc0\x2a": {"b"}}},
		"an SRV takes none":               {ab, api.RR{Type: 33, Class: 1, Target: ab}, 40, "\x00\x00\x00\x00\x00\x00\x01a\x01b\x00", map[string]api.Name{"\xc0\x0c": ab}},
		"an SRV's don't come into it":     {nil, api.RR{Type: 33, Class: 1, Target: ab}, 40, "\x00\x00\x00\x00\x00\x00\x01a\x01b\x00", map[string]api.Name{"\x01b\x00": {"b"}}},
		"an SOA's, both":                  {nil, api.RR{Type: 6, Class: 1, Target: ab, Mail: api.Name{"c"}}, 40, "\x01a\x01b\x00\x01c\x00" + none, map[string]api.Name{"\xc0\x28": ab, "\xc0\x2d": {"c"}}},
		"an SOA's, one by the other":      {nil, api.RR{Type: 6, Class: 1, Target: ab, Mail: api.Name{"c", "b"}}, 40, "\x01a\x01b\x00\x01c\xc0\x2a" + none, map[string]api.Name{"\xc0\x2d": {"c", "b"}}},
		"an SOA's, both by the table":     {ab, api.RR{Type: 6, Class: 1, Target: ab, Mail: api.Name{"c", "a", "b"}}, 40, "\xc0\x0c\x01c\xc0\x0c" + none, map[string]api.Name{"\xc0\x2a": {"c", "a", "b"}}},
		"an SOA's Mail, too far":          {nil, api.RR{Type: 6, Class: 1, Target: ab, Mail: api.Name{"c"}}, 0x3fff, "\x01a\x01b\x00\x01c\x00" + none, map[string]api.Name{"\xff\xff": ab, "\x01c\x00": {"c"}}},
		"an SOA's Mail, just not too far": {nil, api.RR{Type: 6, Class: 1, Target: ab, Mail: api.Name{"c"}}, 0x3ffa, "\x01a\x01b\x00\x01c\x00" + none, map[string]api.Name{"\xff\xfa": ab, "\xff\xff": {"c"}}},
		"too far":                         {nil, api.RR{Type: 5, Class: 1, Target: ab}, 0x4000, "\x01a\x01b\x00", map[string]api.Name{"\x01a\x01b\x00": ab}},
		"as far as numbers go":            {nil, api.RR{Type: 6, Class: 1, Target: ab, Mail: api.Name{"c"}}, mostInt, "\x01a\x01b\x00\x01c\x00" + none, map[string]api.Name{"\x01c\x00": {"c"}}},
		"a record's own name never":       {nil, api.RR{Name: ab, Type: 1, Class: 1, Addr: v4(1, 2, 3, 4)}, 40, "\x01\x02\x03\x04", map[string]api.Name{"\x01a\x01b\x00": ab}},
		"Raw never":                       {ab, api.RR{Type: 5, Class: 3, Raw: "\x01a\x01b\x00"}, 40, "\x01a\x01b\x00", map[string]api.Name{"\xc0\x0c": ab}},
	} {
		p, plain := packed.New(), packed.New()
		p.Put(c.before, 12)
		plain.Put(c.before, 12)
		if s, e := puts(t, c.r, c.at, p, plain); s != c.want || e != api.OK {
			t.Errorf("%s: %q, %v, want %q", what, s, e, c.want)
		}
		for want, n := range c.then {
			// At no place, so that nothing comes into it.
			if s, e := p.Put(n, -1); s != want || e != api.OK {
				t.Errorf("%s: then %q: %q, %v, want %q", what, n, s, e, want)
			}
		}
	}
}

// Promise 13.2: with an error nothing comes into the table, though a name of the record may be.
func TestPutWrong(t *testing.T) {
	ab := api.Name{"a", "b"}
	for _, r := range []api.RR{
		{Type: 5, Class: 1, Target: ab, Raw: "x"},
		{Type: 6, Class: 1, Target: ab, Mail: api.Name{""}},
		{Type: 6, Class: 1, Target: ab, Mail: ab, Nums: [5]int{4: 1 << 32}},
		{Type: 12, Class: 1, Target: ab, TTL: -1},
		{Name: api.Name{""}, Type: 12, Class: 1, Target: ab},
		{Type: 5, Class: 65536, Target: ab},
	} {
		p, plain := packed.New(), packed.New()
		if s, e := puts(t, r, 12, p, plain); s != "" || e == api.OK {
			t.Errorf("%s: %q, %v", text(r), s, e)
		}
		if s, _ := p.Put(ab, -1); s != "\x01a\x01b\x00" {
			t.Errorf("%s is in the table: %q", text(r), s)
		}
	}
}

// Promise 13.2: all pairs of records by one table, at all offsets, and what is in it then.
func TestPutPairs(t *testing.T) {
	for _, a := range records() {
		for _, b := range records() {
			for _, at := range offsets {
				p, plain := packed.New(), packed.New()
				s, _ := puts(t, a, at, p, plain)
				puts(t, b, at+len(s), p, plain)
				for _, n := range []api.Name{{"a", "b"}, {"b"}, {"c", "b"}, {"me", "a", "b"}, sized(255), sized(254)} {
					got, _ := p.Put(n, -1)
					if want, _ := plain.Put(n, -1); got != want {
						t.Errorf("%s, %s at %d: then %.40q: %q, want %q", text(a), text(b), at, n, got, want)
					}
				}
			}
		}
	}
}

// Promise 13.3: each kind's data, in the midst of other octets.
func TestGet(t *testing.T) {
	const ahead = "\x02of\x00" // its name stands at 0
	none := strings.Repeat("\x00", 20)
	for _, c := range []struct {
		kind, class int
		data        string
		want        api.RR
	}{
		{1, 1, "\xc0\x00\x02\x01", api.RR{Addr: v4(192, 0, 2, 1)}},
		{28, 1, "\x00\x01\x02\x03\x04\x05\x06\x07\x08\x09\x0a\x0b\x0c\x0d\x0e\x0f", api.RR{Addr: v6(0, 1, 2, 3, 4, 5, 6, 7, 8, 9, 10, 11, 12, 13, 14, 15)}},
		{5, 1, "\x01a\x02bc\x00", api.RR{Target: api.Name{"a", "bc"}}},
		{5, 1, "\x00", api.RR{}},
		{5, 1, "\xc0\x00", api.RR{Target: api.Name{"of"}}},
		{5, 1, "\x01a\xc0\x00", api.RR{Target: api.Name{"a", "of"}}},
		{12, 1, "\xc0\x03", api.RR{}},
		{12, 1, "\x3f" + strings.Repeat("x", 63) + "\xc0\x00", api.RR{Target: api.Name{strings.Repeat("x", 63), "of"}}},
		{33, 1, "\x00\x01\x01\x00\xff\xff\x01a\x00", api.RR{Pri: 1, Weight: 256, Port: 65535, Target: api.Name{"a"}}},
		// Pointers are read there, too, though none is put.
		{33, 1, "\x00\x00\x00\x00\x00\x00\xc0\x00", api.RR{Target: api.Name{"of"}}},
		{6, 1, "\x01a\x00\x01b\x00" + none[:19] + "\x01", api.RR{Target: api.Name{"a"}, Mail: api.Name{"b"}, Nums: [5]int{4: 1}}},
		{6, 1, "\x01a\xc0\x00\xc0\x04" + "\xff\xff\xff\xff\x00\x00\x00\x02\x00\x00\x03\x00\x00\x04\x00\x00\x05\x00\x00\x00", api.RR{Target: api.Name{"a", "of"}, Mail: api.Name{"a", "of"}, Nums: [5]int{1<<32 - 1, 2, 3 << 8, 4 << 16, 5 << 24}}},
		{6, 1, "\x00\x00" + none, api.RR{}},
		{16, 1, "\x03txt", api.RR{Raw: "\x03txt"}},
		{16, 1, "", api.RR{}},
		{1, 3, "\x01\x02\x03", api.RR{Raw: "\x01\x02\x03"}},
		{5, 255, "\xc0\x00", api.RR{Raw: "\xc0\x00"}},
		{41, 1232, "\x00\x0a\x00\x00", api.RR{Raw: "\x00\x0a\x00\x00"}},
		// Numbers that no record has: no error is named for them.
		{-1, 1, "x", api.RR{Raw: "x"}},
		{65536 + 1, 1, "abcd", api.RR{Raw: "abcd"}},
		{1, 65536 + 1, "abcd", api.RR{Raw: "abcd"}},
		{mostInt, leastInt, "", api.RR{}},
	} {
		c.want.Type, c.want.Class = c.kind, c.class
		for _, behind := range []string{"", "\x00", "more", "\xff"} {
			if r, e := gets(t, ahead+c.data+behind, len(ahead), len(c.data), c.kind, c.class); !same(r, c.want) || e != api.OK {
				t.Errorf("type %d, class %d, %.80q: %s, %v, want %s", c.kind, c.class, c.data, text(r), e, text(c.want))
			}
		}
	}
}

// Promise 13.3: octets that are not there, whatever the type.
func TestGetRange(t *testing.T) {
	for _, c := range []struct {
		msg   string
		at, n int
		want  api.Errno
	}{
		{"", 0, 0, api.OK}, {"abcd", 4, 0, api.OK}, {"abcd", 0, 4, api.OK}, {"abcd", 3, 1, api.OK},
		{"", -1, 0, api.ErrRange}, {"", 0, -1, api.ErrRange}, {"", -1, 1, api.ErrRange}, {"", 1, -1, api.ErrRange}, {"", 1, 0, api.ErrRange}, {"", 0, 1, api.ErrRange},
		{"abcd", -1, 4, api.ErrRange}, {"abcd", 4, -1, api.ErrRange}, {"abcd", 4, 1, api.ErrRange}, {"abcd", 5, 0, api.ErrRange}, {"abcd", 5, -1, api.ErrRange}, {"abcd", 0, 5, api.ErrRange}, {"abcd", 1, 4, api.ErrRange}, {"abcd", -4, 4, api.ErrRange}, {"abcd", 8, -4, api.ErrRange},
		{"abcd", mostInt, mostInt, api.ErrRange}, {"abcd", mostInt, 1, api.ErrRange}, {"abcd", 1, mostInt, api.ErrRange}, {"abcd", 4, mostInt - 3, api.ErrRange}, {"abcd", leastInt, leastInt, api.ErrRange}, {"abcd", leastInt, 4, api.ErrRange}, {"abcd", mostInt, leastInt, api.ErrRange}, {"abcd", leastInt, mostInt, api.ErrRange}, {"abcd", 0, leastInt, api.ErrRange},
	} {
		if _, e := gets(t, c.msg, c.at, c.n, 99, 1); e != c.want {
			t.Errorf("Get(%q, %d, %d): %v, want %v", c.msg, c.at, c.n, e, c.want)
		}
		for _, k := range kinds {
			if _, e := gets(t, c.msg, c.at, c.n, k, 1); c.want == api.ErrRange && e != api.ErrRange {
				t.Errorf("Get(%q, %d, %d, %d, 1): %v", c.msg, c.at, c.n, k, e)
			}
		}
	}
}

// Promise 13.3: data that are no such record's, and of several errors the first one from the front.
func TestGetWrong(t *testing.T) {
	const ahead = "\x3fof\x00" // what stands at 0 goes on far into the data, or behind them
	full := wire(sized(255))
	for _, c := range []struct {
		kind int
		data string
		want api.Errno
	}{
		// Not as many as must be.
		{1, "", api.ErrForm}, {1, "\x01\x02\x03", api.ErrForm}, {1, "\x01\x02\x03\x04\x05", api.ErrForm}, {1, strings.Repeat("x", 16), api.ErrForm},
		{28, "", api.ErrForm}, {28, "\x01\x02\x03\x04", api.ErrForm}, {28, strings.Repeat("x", 15), api.ErrForm}, {28, strings.Repeat("x", 17), api.ErrForm},
		{33, "", api.ErrForm}, {33, "\x00", api.ErrForm}, {33, "\x00\x01\x00", api.ErrForm}, {33, "\x00\x01\x00\x02", api.ErrForm}, {33, "\x00\x01\x00\x02\x00", api.ErrForm},
		{6, "\x00\x00" + strings.Repeat("\x00", 19), api.ErrForm}, {6, "\x00\x00" + strings.Repeat("\x00", 21), api.ErrForm}, {6, "\x00\x00", api.ErrForm}, {6, "\x00\x00\x00\x00\x00\x00\x00", api.ErrForm},
		{5, "\x01a\x00x", api.ErrForm}, {12, "\x00\x00", api.ErrForm}, {12, "\xc0\x03\x00", api.ErrForm}, {33, "\x00\x00\x00\x00\x00\x00\x00\x00", api.ErrForm},
		// A number that is cut off is told, not the octets of which no name can be read then.
		{33, "\x00\x01\x40", api.ErrForm}, {33, "\x00\x01\x00\x02\xff", api.ErrForm}, {33, "\x40", api.ErrForm},
		// A name that does not end within them.
		{5, "", api.ErrForm}, {12, "\x01", api.ErrForm}, {5, "\x01a", api.ErrForm}, {5, "\x03ab", api.ErrForm}, {5, "\xc0", api.ErrForm}, {5, "\x01a\xc0", api.ErrForm}, {5, full[:254], api.ErrForm},
		{33, "\x00\x00\x00\x00\x00\x00", api.ErrForm}, {33, "\x00\x00\x00\x00\x00\x00\x01a", api.ErrForm}, {33, "\x00\x00\x00\x00\x00\x00\xc0", api.ErrForm},
		{6, "", api.ErrForm}, {6, "\x01", api.ErrForm}, {6, "\x01a\x00", api.ErrForm}, {6, "\x01a\x00\x01b", api.ErrForm}, {6, "\x01a\x00\xc0", api.ErrForm},
		// A name that no octets are.
		{5, "\x40", api.ErrLabel}, {5, "\x01a\xbf", api.ErrLabel}, {5, "\xc0\x04", api.ErrPointer}, {5, "\xff\xff", api.ErrPointer}, {5, "\x01a\xc0\x04", api.ErrPointer}, {5, full[:254] + "\x01x\x00", api.ErrLong}, {5, full[:254] + "\x01x", api.ErrLong},
		{33, "\x00\x00\x00\x00\x00\x00\x40", api.ErrLabel}, {33, "\x00\x00\x00\x00\x00\x00\xc0\x0a", api.ErrPointer}, {33, "\x00\x00\x00\x00\x00\x00" + full[:254] + "\x3f" + strings.Repeat("x", 63), api.ErrLong},
		{6, "\x40", api.ErrLabel}, {6, "\xc0\x04", api.ErrPointer}, {6, "\x00\x80", api.ErrLabel}, {6, "\x00\xc0\x05", api.ErrPointer}, {6, "\x01a\x00\xc0\x07\x00", api.ErrPointer}, {6, "\x00" + full[:254] + "\x01x\x00", api.ErrLong},
		// Its own octets end within them, but not those to which they lead: octets behind the data are not there.
		{5, "\xc0\x00", api.ErrShort}, {12, "\x01a\xc0\x00", api.ErrShort}, {12, "\x01\x00\xc0\x00", api.ErrShort}, {5, "\x01a\xc0", api.ErrForm}, {12, "\x00\xc0\x00", api.ErrForm},
		{33, "\x00\x00\x00\x00\x00\x00\xc0\x00", api.ErrShort}, {6, "\x01a\xc0\x00\xc0", api.ErrShort}, {6, "\x00\xc0\x00" + strings.Repeat("\x00", 20), api.ErrShort},
	} {
		for _, behind := range []string{"", "\x00", strings.Repeat("\x00", 100), "a\x00", "\x01a\x00"} {
			if r, e := gets(t, ahead+c.data+behind, len(ahead), len(c.data), c.kind, 1); e != c.want {
				t.Errorf("type %d, %.80q, then %q: %s, %v, want %v", c.kind, c.data, behind, text(r), e, c.want)
			}
		}
	}
}

// Promise 13.3: a name that points ahead, to a label that ends ahead of the data, within them, with them, or behind them.
func TestGetAhead(t *testing.T) {
	for c, want := range map[byte]struct {
		n api.Name
		e api.Errno
	}{
		0: {nil, api.OK},
		1: {nil, api.ErrLabel}, // then f, which is no label's first octet
		2: {api.Name{"of"}, api.OK},
		3: {nil, api.ErrPointer},            // then the pointer itself
		4: {api.Name{"of\x00\xc0"}, api.OK}, // then the pointer's other octet
		5: {nil, api.ErrShort}, 6: {nil, api.ErrShort}, 7: {nil, api.ErrShort}, 8: {nil, api.ErrShort}, 63: {nil, api.ErrShort},
		64: {nil, api.ErrLabel}, 0xc0: {nil, api.ErrPointer},
	} {
		for _, behind := range []string{"", "\x00", "a\x00", strings.Repeat("\x00", 100)} {
			msg := string([]byte{c}) + "of\x00\xc0\x00" + behind
			for _, kind := range []int{api.TypeCNAME, api.TypePTR} {
				if r, e := gets(t, msg, 4, 2, kind, 1); !slices.Equal(r.Target, want.n) || e != want.e {
					t.Errorf("%q: %q, %v, want %q, %v", msg, r.Target, e, want.n, want.e)
				}
			}
		}
	}
}

// Promise 13.3: octets of all lengths, of all kinds of types and classes.
func TestLengths(t *testing.T) {
	for n := range 60 {
		for _, fill := range []string{"\x00", "\x01", "x", "\x3f", "\xc0"} {
			msg := "\x01b\x00" + strings.Repeat(fill, n) + "\x00more"
			for _, k := range kinds {
				for _, c := range classes {
					gets(t, msg, 3, n, k, c)
				}
			}
		}
	}
	for _, n := range []int{65535, 65536, 70000} {
		msg := strings.Repeat("\x00", n)
		if r, e := gets(t, msg, 0, n, 99, 1); r.Raw != msg || e != api.OK {
			t.Errorf("%d octets: %d, %v", n, len(r.Raw), e)
		}
		for _, k := range []int{1, 5, 6, 12, 28, 33} {
			if _, e := gets(t, msg, 0, n, k, 1); e != api.ErrForm {
				t.Errorf("type %d, %d octets: %v", k, n, e)
			}
		}
	}
}

// Promise 13.3: all types, of class IN and of others, by octets that may be each kind's.
func TestTypes(t *testing.T) {
	soa := "\x00\x00" + strings.Repeat("\x01", 20)
	for k := range 65536 {
		for _, s := range []string{"\x00", "\x00\x00\x00\x00", soa[6:], "\x00\x01\x00\x02\x00\x03\x00", soa} {
			gets(t, s, 0, len(s), k, 1)
		}
		gets(t, "abc", 0, 3, k, 3)
	}
	for c := range 65536 {
		for _, k := range []int{1, 5, 6, 12, 28, 33} {
			gets(t, soa, 0, len(soa), k, c)
		}
	}
}

// Promise 13.3: all short texts of octets that mean something, as data of each kind with a name.
func TestShortTexts(t *testing.T) {
	const octets = "\x00\x01\x02a\x40\xc0"
	var all func(s string, left int)
	all = func(s string, left int) {
		nums := strings.Repeat("\x00", 20)
		for _, behind := range []string{"", "\x01b\x00"} {
			msg := "\x01b\x00" + s + behind
			gets(t, msg, 3, len(s), 5, 1)
			gets(t, msg, 1, len(s)+2, 12, 1)
			gets(t, "\x01b\x00\x00\x02\x00"+s+behind, 0, len(s)+6, 33, 1)
			gets(t, "\x01b\x00"+s+nums+behind, 3, len(s)+20, 6, 1)
			gets(t, "\x03b\x01"+s+nums+behind, 3, len(s)+19, 6, 1)
		}
		if left == 0 {
			return
		}
		for i := range len(octets) {
			all(s+octets[i:i+1], left-1)
		}
	}
	all("", 5)
}

// Promise 13.4: what is put is got as it was, at all places, with a table and without, alone and behind others.
func TestUndone(t *testing.T) {
	for _, r := range records() {
		for _, n := range []int{0, 1, 12, 255, 256, 0x3ff0, 0x3fff, 0x4000, 70000} {
			ahead := strings.Repeat("\xff", n)
			undone(t, ahead, r, nil)
			undone(t, ahead, r, packed.New())
			p := packed.New()
			s, _ := p.Put(api.Name{"a", "b"}, n)
			undone(t, ahead+s, r, p)
		}
	}
}

// Promise 13.4: records one behind the other by one table, each got again from the whole.
func TestUndoneRow(t *testing.T) {
	for _, p := range []*packed.Table{nil, packed.New()} {
		msg := strings.Repeat("\x00", 12)
		var at []int
		l := append(records(), records()...)
		for _, r := range l {
			at = append(at, len(msg))
			s, e := Put(r, len(msg), p)
			if e != api.OK {
				t.Errorf("%s: %v", text(r), e)
			}
			msg += s
		}
		at = append(at, len(msg))
		for i, r := range l {
			want := clone(r)
			want.Name, want.TTL = nil, 0
			if g, e := gets(t, msg, at[i], at[i+1]-at[i], r.Type, r.Class); !same(g, want) || e != api.OK {
				t.Errorf("%s: %s, %v", text(r), text(g), e)
			}
		}
	}
}

// Promise 13.4: all numbers of two octets in each place, and each byte of an address.
func TestUndoneNumbers(t *testing.T) {
	for n := range 65536 {
		r := api.RR{Type: 33, Class: 1, Pri: n, Weight: 65535 - n, Port: n ^ 255, Target: api.Name{"a"}}
		s, e := Put(r, 0, nil)
		if g, f := Get(s, 0, len(s), 33, 1); e != api.OK || f != api.OK || !same(g, r) {
			t.Fatalf("%s: %q, %v, %s, %v", text(r), s, e, text(g), f)
		}
	}
	for i := range 16 {
		for c := range 256 {
			a := v6()
			a.IP[i] = byte(c)
			undone(t, "", api.RR{Type: 28, Class: 1, Addr: a}, nil)
			if i < 4 {
				a.Family = api.Inet
				undone(t, "", api.RR{Type: 1, Class: 1, Addr: a}, nil)
			}
		}
	}
	for _, n := range longs {
		for i := range 5 {
			r := api.RR{Type: 6, Class: 1}
			if r.Nums[i] = n; n >= 0 && n < 1<<32 {
				undone(t, "", r, nil)
			}
		}
	}
}

// What a Get told stays what it was, whatever is asked later.
func TestKept(t *testing.T) {
	const msg = "\x01a\x00\x01b\xc0\x00"
	first, _ := Get(msg, 3, 4, 5, 1)
	second, _ := Get(msg, 3, 4, 5, 1)
	second.Target[0] = "z"
	if !slices.Equal(first.Target, api.Name{"b", "a"}) {
		t.Errorf("%q", first.Target)
	}
}

// P1: whatever the arguments, every call ends and tells what the plain ways tell.
func FuzzRdata(f *testing.F) {
	f.Add("\x01b\x00\x01a\xc0\x00", 3, 4, 5, 1, 0, "a", "b", "", 0, 0, 0)
	f.Add("\x00\x0a\x00\x14\x13\xc4\x01a\x01b\x00", 0, 11, 33, 1, 60, "a", "b", "", 10, 20, 5060)
	f.Add("\x00\x00"+strings.Repeat("\x01", 20), 0, 22, 6, 1, 1<<32, "ns", "me", "", 1<<32-1, 1<<32, -1)
	f.Add("\xc0\x00\x02\x01", 0, 4, 1, 1, -1, "", "", "\xc0\x00\x02\x01", 4, 6, 0)
	f.Add(strings.Repeat("\xc0", 16), mostInt, mostInt, 28, 3, leastInt, strings.Repeat("x", 64), "a", "raw", mostInt, leastInt, 65536)
	f.Fuzz(func(t *testing.T, msg string, at, n, kind, class, ttl int, a, b, octets string, x, y, z int) {
		gets(t, msg, at, n, kind, class)
		for _, k := range []int{1, 5, 6, 12, 28, 33, 41} {
			gets(t, msg, at, n, k, 1)
			gets(t, msg, 0, len(msg), k, 1)
			if len(msg) > 0 {
				gets(t, msg, len(msg)/2, (len(msg)-len(msg)/2)&n, k, 1)
			}
		}
		p, plain := packed.New(), packed.New()
		address := api.Addr{Family: x, Zone: y}
		copy(address.IP[:], octets)
		for _, r := range []api.RR{
			{Name: api.Name{a, b}, Type: kind, Class: class, TTL: ttl, Raw: octets},
			{Type: 1, Class: 1, Addr: address}, {Type: 28, Class: 1, Addr: address},
			{Type: 1, Class: 1, Addr: api.Addr{Family: 4, IP: address.IP}}, {Type: 28, Class: 1, Addr: api.Addr{Family: 6, IP: address.IP}},
			{Type: 5, Class: 1, Target: api.Name{a, b}, Raw: octets}, {Type: 12, Class: 1, Target: api.Name{b, a, b}},
			{Type: 33, Class: 1, Pri: x, Weight: y, Port: z, Target: api.Name{a}}, {Type: 33, Class: 1, Pri: x & 65535, Weight: y & 65535, Port: z & 65535, Target: api.Name{b}},
			{Type: 6, Class: 1, Target: api.Name{a, b}, Mail: api.Name{b, b}, Nums: [5]int{x, y, z, n, ttl}},
			{Type: 6, Class: 1, Target: api.Name{a, b}, Mail: api.Name{b, a}, Nums: [5]int{x & (1<<32 - 1), y & 65535, z & 255, 0, 1}},
			{Type: kind, Class: class, TTL: ttl, Addr: address, Target: api.Name{a}, Mail: api.Name{b}, Pri: x, Weight: y, Port: z, Nums: [5]int{z, y, x}, Raw: octets},
		} {
			puts(t, r, at, p, plain)
			if checks(t, r) == api.OK {
				undone(t, msg, r, nil)
				undone(t, msg, r, packed.New())
			}
		}
	})
}
