package message

import (
	"encoding/binary"
	"fmt"
	"reflect"
	"slices"
	"strings"
	"testing"

	"wayfinder/api"
	"wayfinder/packed"
	"wayfinder/rdata"
)

const (
	mostInt  = 1<<63 - 1
	leastInt = -mostInt - 1
)

// words are numbers at the edges of what two octets hold, and such as may not be.
var words = []int{leastInt, -1 << 32, -65536, -65535, -1, 0, 1, 255, 256, 257, 32767, 32768, 65534, 65535, 65536, 65537, 1 << 31, 1 << 32, 1<<32 + 1, mostInt}

// plainName is what is wrong with a name.
func plainName(n api.Name) api.Errno {
	for _, l := range n {
		if len(l) < 1 || len(l) > 63 {
			return 7
		}
	}
	if len(wire(n)) > 255 {
		return 3
	}
	return 0
}

// plainCheck is Check by another way: all that is wrong, in order, of which the first is told.
func plainCheck(m api.Message) api.Errno {
	var wrong []api.Errno
	if h := m.Head; h.ID>>16 != 0 || h.Opcode>>4 != 0 || h.Rcode>>4 != 0 {
		wrong = append(wrong, 4)
	}
	if max(len(m.Questions), len(m.Answers), len(m.Authority), len(m.Extra)) >= 65536 {
		wrong = append(wrong, 3)
	}
	for _, q := range m.Questions {
		wrong = append(wrong, plainName(q.Name))
		if q.Type != int(uint16(q.Type)) || q.Class != int(uint16(q.Class)) {
			wrong = append(wrong, 4)
		}
	}
	for _, r := range slices.Concat(m.Answers, m.Authority, m.Extra) {
		wrong = append(wrong, rdata.Check(r))
	}
	for _, e := range wrong {
		if e != 0 {
			return e
		}
	}
	return 0
}

// plainEncode is Encode by another way: all octets, however many, with the library's own numbers.
func plainEncode(m api.Message, pack bool) (string, api.Errno) {
	if e := plainCheck(m); e != 0 {
		return "", e
	}
	var p *packed.Table
	if pack {
		p = packed.New()
	}
	var out []byte
	word := func(n int) { out = binary.BigEndian.AppendUint16(out, uint16(n)) }
	name := func(n api.Name) {
		s, _ := p.Put(n, len(out))
		out = append(out, s...)
	}
	word(m.Head.ID)
	bits := m.Head.Opcode<<11 | m.Head.Rcode
	for i, on := range []bool{m.Head.QR, m.Head.AA, m.Head.TC, m.Head.RD, m.Head.RA, m.Head.AD, m.Head.CD} {
		if on {
			bits |= []int{0x8000, 0x400, 0x200, 0x100, 0x80, 0x20, 0x10}[i]
		}
	}
	word(bits)
	word(len(m.Questions))
	word(len(m.Answers))
	word(len(m.Authority))
	word(len(m.Extra))
	for _, q := range m.Questions {
		name(q.Name)
		word(q.Type)
		word(q.Class)
	}
	for _, r := range slices.Concat(m.Answers, m.Authority, m.Extra) {
		name(r.Name)
		word(r.Type)
		word(r.Class)
		word(r.TTL >> 16)
		word(r.TTL)
		data, _ := rdata.Put(r, len(out)+2, p)
		word(len(data))
		out = append(out, data...)
	}
	if len(out) >= 65536 {
		return "", 3
	}
	return string(out), 0
}

// plainDecode is Decode by another way: by places in the octets, without breaking off.
func plainDecode(s string) (api.Message, api.Errno) {
	switch {
	case len(s) >= 65536:
		return api.Message{}, 3
	case len(s) < 12:
		return api.Message{}, 1
	}
	word := func(at int) int { return int(binary.BigEndian.Uint16([]byte(s[at : at+2]))) }
	bits := word(2)
	bit := func(n int) bool { return bits/n%2 == 1 }
	m := api.Message{Head: api.Head{
		ID: word(0), QR: bit(32768), Opcode: bits / 2048 % 16, AA: bit(1024), TC: bit(512), RD: bit(256), RA: bit(128), AD: bit(32), CD: bit(16), Rcode: bits % 16,
	}}
	at := 12
	for list := range 4 {
		for range word(4 + 2*list) {
			n, end, e := packed.Get(s, at)
			if e != 0 {
				return api.Message{}, e
			}
			at = end
			if list == 0 {
				if at+4 > len(s) {
					return api.Message{}, 1
				}
				m.Questions = append(m.Questions, api.Question{Name: n, Type: word(at), Class: word(at + 2)})
				at += 4
				continue
			}
			if at+10 > len(s) || at+10+word(at+8) > len(s) {
				return api.Message{}, 1
			}
			r, e := rdata.Get(s, at+10, word(at+8), word(at), word(at+2))
			if e != 0 {
				return api.Message{}, e
			}
			r.Name, r.TTL = n, word(at+4)<<16+word(at+6)
			l := []*[]api.RR{&m.Answers, &m.Authority, &m.Extra}[list-1]
			*l = append(*l, r)
			at += 10 + word(at+8)
		}
	}
	if at < len(s) {
		return api.Message{}, 2
	}
	return m, 0
}

// wire are a name's octets, without a pointer.
func wire(n api.Name) string {
	s := ""
	for _, l := range n {
		s += string([]byte{byte(len(l))}) + l
	}
	return s + "\x00"
}

// sized is a name of that size, of labels that are as long as may be.
func sized(size int) api.Name {
	var n api.Name
	for left := size - 1; left > 1; {
		l := min(left-1, 63)
		// One octet alone would be left, and no label takes that.
		if left-1-l == 1 {
			l--
		}
		n = append(n, strings.Repeat("x", l))
		left -= l + 1
	}
	return n
}

// num are numbers in two octets each.
func num(numbers ...int) string {
	var out []byte
	for _, n := range numbers {
		out = binary.BigEndian.AppendUint16(out, uint16(n))
	}
	return string(out)
}

// cloneRecords are records that share no list with others.
func cloneRecords(l []api.RR) []api.RR {
	l = slices.Clone(l)
	for i := range l {
		r := &l[i]
		r.Name, r.Target, r.Mail = slices.Clone(r.Name), slices.Clone(r.Target), slices.Clone(r.Mail)
	}
	return l
}

// clone is a message that shares no list with another one.
func clone(m api.Message) api.Message {
	m.Questions = slices.Clone(m.Questions)
	for i := range m.Questions {
		m.Questions[i].Name = slices.Clone(m.Questions[i].Name)
	}
	m.Answers, m.Authority, m.Extra = cloneRecords(m.Answers), cloneRecords(m.Authority), cloneRecords(m.Extra)
	return m
}

// sameRecord is whether two records are one; nil and empty are one there.
func sameRecord(a, b api.RR) bool {
	if !slices.Equal(a.Name, b.Name) || !slices.Equal(a.Target, b.Target) || !slices.Equal(a.Mail, b.Mail) {
		return false
	}
	a.Name, a.Target, a.Mail = nil, nil, nil
	b.Name, b.Target, b.Mail = nil, nil, nil
	return reflect.DeepEqual(a, b)
}

// same is whether two messages are one; nil and empty are one there.
func same(a, b api.Message) bool {
	question := func(a, b api.Question) bool {
		return slices.Equal(a.Name, b.Name) && a.Type == b.Type && a.Class == b.Class
	}
	return a.Head == b.Head && slices.EqualFunc(a.Questions, b.Questions, question) && slices.EqualFunc(a.Answers, b.Answers, sameRecord) &&
		slices.EqualFunc(a.Authority, b.Authority, sameRecord) && slices.EqualFunc(a.Extra, b.Extra, sameRecord)
}

// text is a message, for what a test tells.
func text(m api.Message) string {
	return fmt.Sprintf("%.600q", fmt.Sprintf("%+v", m))
}

// checks holds Check against the plain way, and is what it tells.
func checks(t *testing.T, m api.Message) api.Errno {
	t.Helper()
	given := clone(m)
	e := Check(m)
	if we := plainCheck(m); e != we {
		t.Errorf("Check(%s): %v, want %v", text(m), e, we)
	}
	if !same(m, given) {
		t.Errorf("%s was written into: %s", text(given), text(m))
	}
	return e
}

// puts holds Encode against the plain way, and is what it tells.
func puts(t *testing.T, m api.Message, pack bool) (string, api.Errno) {
	t.Helper()
	given := clone(m)
	s, e := Encode(m, pack)
	if ws, we := plainEncode(m, pack); s != ws || e != we {
		t.Errorf("Encode(%s, %v): %.200q, %v, want %.200q, %v", text(m), pack, s, e, ws, we)
	}
	if e != api.OK && s != "" {
		t.Errorf("Encode(%s, %v): %.200q beside %v", text(m), pack, s, e)
	}
	if !same(m, given) {
		t.Errorf("%s was written into: %s", text(given), text(m))
	}
	return s, e
}

// gets holds Decode against the plain way, and is what it tells.
func gets(t *testing.T, s string) (api.Message, api.Errno) {
	t.Helper()
	m, e := Decode(s)
	if wm, we := plainDecode(s); !same(m, wm) || e != we {
		t.Errorf("Decode(%.200q): %s, %v, want %s, %v", s, text(m), e, text(wm), we)
	}
	if e != api.OK && !same(m, api.Message{}) {
		t.Errorf("Decode(%.200q): %s beside %v", s, text(m), e)
	}
	return m, e
}

// undone encodes a message, packed and not, and decodes it (14.3).
func undone(t *testing.T, m api.Message) {
	t.Helper()
	for _, pack := range []bool{false, true} {
		s, e := puts(t, m, pack)
		if e != api.OK {
			continue
		}
		if g, e := gets(t, s); !same(g, m) || e != api.OK {
			t.Errorf("packed %v: %s, %v, want %s", pack, text(g), e, text(m))
		}
	}
}

// redone decodes octets; if they are a message, it may be, and is undone (14.3).
func redone(t *testing.T, s string) {
	t.Helper()
	m, e := gets(t, s)
	if e != api.OK {
		return
	}
	if e := checks(t, m); e != api.OK {
		t.Errorf("%s is decoded, but may not be: %v", text(m), e)
	}
	undone(t, m)
}

// Some names, and addresses of both families.
var (
	www = api.Name{"www", "example", "com"}
	web = api.Name{"web", "example", "com"}
	zoo = api.Name{"example", "com"}
	v4  = api.Addr{Family: api.Inet, IP: [16]byte{192, 0, 2, 1}}
	v6  = api.Addr{Family: api.Inet6, IP: [16]byte{0x20, 1, 0xd, 0xb8, 15: 1}}
)

// full is a message with members in all lists, and records of all kinds.
func full() api.Message {
	return api.Message{
		Head:      api.Head{ID: 0xabcd, QR: true, Opcode: 2, AA: true, RD: true, RA: true, AD: true, Rcode: 3},
		Questions: []api.Question{{Name: www, Type: api.TypeA, Class: 1}, {Name: nil, Type: 65535, Class: 255}},
		Answers: []api.RR{
			{Name: www, Type: api.TypeCNAME, Class: 1, TTL: 60, Target: web},
			{Name: web, Type: api.TypeA, Class: 1, TTL: 1<<32 - 1, Addr: v4},
			{Name: web, Type: api.TypeAAAA, Class: 1, TTL: 1, Addr: v6},
		},
		Authority: []api.RR{
			{Name: zoo, Type: api.TypeSOA, Class: 1, TTL: 3600, Target: api.Name{"ns", "example", "com"}, Mail: api.Name{"me", "example", "com"}, Nums: [5]int{1, 2, 3, 4, 1<<32 - 1}},
			{Name: api.Name{"1", "2", "0", "192", "in-addr", "arpa"}, Type: api.TypePTR, Class: 1, Target: www},
		},
		Extra: []api.RR{
			{Name: api.Name{"_sip", "_tcp", "example", "com"}, Type: api.TypeSRV, Class: 1, TTL: 5, Pri: 10, Weight: 20, Port: 5060, Target: web},
			{Type: api.TypeOPT, Class: 1232, TTL: 1 << 15},
			{Name: web, Type: 16, Class: 1, TTL: 7, Raw: "\x03txt"},
			{Name: web, Type: api.TypeA, Class: 3, Raw: "\xc0\x0c"},
		},
	}
}

// samples are ordinary messages and ones at the edges, all of which may be, and are not too long.
func samples() []api.Message {
	a := api.Name{"a", "b"}
	return []api.Message{
		{},
		{Head: api.Head{ID: 65535, QR: true, Opcode: 15, AA: true, TC: true, RD: true, RA: true, AD: true, CD: true, Rcode: 15}},
		{Head: api.Head{RD: true}, Questions: []api.Question{{Name: a, Type: 1, Class: 1}}},
		{Head: api.Head{ID: 7, RD: true}, Questions: []api.Question{{Name: a, Type: 28, Class: 1}}, Extra: []api.RR{{Type: api.TypeOPT, Class: 1232}}},
		{Questions: []api.Question{{}, {Type: 65535, Class: 65535}, {Name: sized(255)}}},
		{Answers: []api.RR{{Name: a, Type: 1, Class: 1, Addr: v4}}},
		{Authority: []api.RR{{Name: a, Type: 5, Class: 1, Target: a}}},
		{Extra: []api.RR{{Name: a, Type: 33, Class: 1, Target: a}, {Name: a, Type: 5, Class: 1, Target: api.Name{"c", "a", "b"}}}},
		{Answers: []api.RR{{}, {}}, Authority: []api.RR{{}}, Extra: []api.RR{{}, {}, {}}},
		{Answers: []api.RR{{Name: sized(255), Type: 6, Class: 1, Target: sized(255), Mail: sized(200)}}},
		{Answers: []api.RR{{Type: 99, Class: 9, Raw: strings.Repeat("\xc0", 1000)}}, Authority: []api.RR{{Name: api.Name{"\x00", "."}, Raw: "\x00"}}},
		full(),
	}
}

// Promise 14.1: the document's example.
func TestExample(t *testing.T) {
	m := api.Message{Head: api.Head{ID: 1, RD: true}, Questions: []api.Question{{Name: api.Name{"a", "b"}, Type: api.TypeA, Class: api.ClassIN}}}
	const want = "\x00\x01\x01\x00\x00\x01\x00\x00\x00\x00\x00\x00" + "\x01a\x01b\x00" + "\x00\x01\x00\x01"
	for _, pack := range []bool{false, true} {
		if s, e := Encode(m, pack); s != want || e != api.OK {
			t.Errorf("%q, %v", s, e)
		}
	}
	if g, e := Decode(want); !same(g, m) || e != api.OK {
		t.Errorf("%s, %v", text(g), e)
	}
}

// Promise 14.1: all octets of a message with members in all lists, not packed.
func TestOctets(t *testing.T) {
	zoo := "\x07example\x03com\x00"
	www, web := "\x03www"+zoo, "\x03web"+zoo
	want := "\xab\xcd\x95\xa3\x00\x02\x00\x03\x00\x02\x00\x04" +
		www + "\x00\x01\x00\x01" +
		"\x00\xff\xff\x00\xff" +
		www + "\x00\x05\x00\x01\x00\x00\x00\x3c\x00\x11" + web +
		web + "\x00\x01\x00\x01\xff\xff\xff\xff\x00\x04\xc0\x00\x02\x01" +
		web + "\x00\x1c\x00\x01\x00\x00\x00\x01\x00\x10\x20\x01\x0d\xb8\x00\x00\x00\x00\x00\x00\x00\x00\x00\x00\x00\x01" +
		zoo + "\x00\x06\x00\x01\x00\x00\x0e\x10\x00\x34" + "\x02ns" + zoo + "\x02me" + zoo + "\x00\x00\x00\x01\x00\x00\x00\x02\x00\x00\x00\x03\x00\x00\x00\x04\xff\xff\xff\xff" +
		"\x011\x012\x010\x03192\x07in-addr\x04arpa\x00" + "\x00\x0c\x00\x01\x00\x00\x00\x00\x00\x11" + www +
		"\x04_sip\x04_tcp" + zoo + "\x00\x21\x00\x01\x00\x00\x00\x05\x00\x17\x00\x0a\x00\x14\x13\xc4" + web +
		"\x00\x00\x29\x04\xd0\x00\x00\x80\x00\x00\x00" +
		web + "\x00\x10\x00\x01\x00\x00\x00\x07\x00\x04\x03txt" +
		web + "\x00\x01\x00\x03\x00\x00\x00\x00\x00\x02\xc0\x0c"
	if s, e := Encode(full(), false); s != want || e != api.OK {
		t.Errorf("%q, %v, want %q", s, e, want)
	}
	if m, e := Decode(want); !same(m, full()) || e != api.OK {
		t.Errorf("%s, %v", text(m), e)
	}
}

// Promise 14.1: the same by one table, through questions, records and data; of an SRV by none.
func TestPacked(t *testing.T) {
	want := "\xab\xcd\x95\xa3\x00\x02\x00\x03\x00\x02\x00\x04" +
		"\x03www\x07example\x03com\x00" + "\x00\x01\x00\x01" + // www at 12, example at 16
		"\x00\xff\xff\x00\xff" + // at 33
		"\xc0\x0c" + "\x00\x05\x00\x01\x00\x00\x00\x3c\x00\x06" + "\x03web\xc0\x10" + // at 38; web at 50
		"\xc0\x32" + "\x00\x01\x00\x01\xff\xff\xff\xff\x00\x04\xc0\x00\x02\x01" + // at 56
		"\xc0\x32" + "\x00\x1c\x00\x01\x00\x00\x00\x01\x00\x10\x20\x01\x0d\xb8\x00\x00\x00\x00\x00\x00\x00\x00\x00\x00\x00\x01" + // at 72
		"\xc0\x10" + "\x00\x06\x00\x01\x00\x00\x0e\x10\x00\x1e" + "\x02ns\xc0\x10" + "\x02me\xc0\x10" + "\x00\x00\x00\x01\x00\x00\x00\x02\x00\x00\x00\x03\x00\x00\x00\x04\xff\xff\xff\xff" +
		"\x011\x012\x010\x03192\x07in-addr\x04arpa\x00" + "\x00\x0c\x00\x01\x00\x00\x00\x00\x00\x02" + "\xc0\x0c" +
		"\x04_sip\x04_tcp\xc0\x10" + "\x00\x21\x00\x01\x00\x00\x00\x05\x00\x17\x00\x0a\x00\x14\x13\xc4" + "\x03web\x07example\x03com\x00" +
		"\x00\x00\x29\x04\xd0\x00\x00\x80\x00\x00\x00" +
		"\xc0\x32" + "\x00\x10\x00\x01\x00\x00\x00\x07\x00\x04\x03txt" +
		"\xc0\x32" + "\x00\x01\x00\x03\x00\x00\x00\x00\x00\x02\xc0\x0c"
	if s, e := Encode(full(), true); s != want || e != api.OK {
		t.Errorf("%q, %v, want %q", s, e, want)
	}
	if m, e := Decode(want); !same(m, full()) || e != api.OK {
		t.Errorf("%s, %v", text(m), e)
	}
}

// Promise 14.1: names of one list are pointed to from each later one, wherever they stood, and each message has a table of its own.
func TestOneTable(t *testing.T) {
	n := api.Name{"n"}
	a := api.RR{Name: n, Type: 1, Class: 1, Addr: v4}
	record := "\xc0\x0c\x00\x01\x00\x01\x00\x00\x00\x00\x00\x04\xc0\x00\x02\x01"
	m := api.Message{Questions: []api.Question{{Name: n}, {Name: n}}, Answers: []api.RR{a}, Authority: []api.RR{a}, Extra: []api.RR{a}}
	want := "\x00\x00\x00\x00\x00\x02\x00\x01\x00\x01\x00\x01\x01n\x00\x00\x00\x00\x00\xc0\x0c\x00\x00\x00\x00" + record + record + record
	for range 2 {
		if s, e := Encode(m, true); s != want || e != api.OK {
			t.Errorf("%q, %v, want %q", s, e, want)
		}
	}
	// A name that stands in data first, behind how many octets they have.
	m = api.Message{Authority: []api.RR{{Type: 12, Class: 1, Target: n}}, Extra: []api.RR{{Name: n}}}
	want = "\x00\x00\x00\x00\x00\x00\x00\x00\x00\x01\x00\x01" + "\x00\x00\x0c\x00\x01\x00\x00\x00\x00\x00\x03\x01n\x00" + "\xc0\x17" + strings.Repeat("\x00", 10)
	if s, e := Encode(m, true); s != want || e != api.OK {
		t.Errorf("%q, %v, want %q", s, e, want)
	}
	// Of an SRV no name comes into the table.
	m.Authority[0].Type = 33
	want = "\x00\x00\x00\x00\x00\x00\x00\x00\x00\x01\x00\x01" + "\x00\x00\x21\x00\x01\x00\x00\x00\x00\x00\x09\x00\x00\x00\x00\x00\x00\x01n\x00" + "\x01n\x00" + strings.Repeat("\x00", 10)
	if s, e := Encode(m, true); s != want || e != api.OK {
		t.Errorf("%q, %v, want %q", s, e, want)
	}
}

// Promise 14.1: offsets are counted from the message's begin on, up to the edge of what a pointer tells.
func TestOffsets(t *testing.T) {
	n := api.Name{"n"}
	for at := 0x3ff0; at < 0x4010; at++ {
		m := api.Message{
			Answers: []api.RR{{Type: 99, Raw: strings.Repeat("\xff", at-12-11)}},
			Extra:   []api.RR{{Name: n}, {Name: n}},
		}
		s, e := puts(t, m, true)
		want := "\x01n\x00" + strings.Repeat("\x00", 10)
		if at <= 0x3fff {
			want += num(0xc000+at) + strings.Repeat("\x00", 10)
		} else {
			want += want
		}
		if e != api.OK || s[at:] != want {
			t.Errorf("at %x: %q, %v, want %q", at, s[at:], e, want)
		}
		undone(t, m)
	}
}

// fault is something wrong, and what is told of it.
type fault struct {
	what string
	make func(m *api.Message)
	want api.Errno
}

// faults are all kinds of what may be wrong, in the order in which they are told.
func faults() []fault {
	many := func(l *[]api.RR) { *l = append(slices.Clip(*l), make([]api.RR, 65536-len(*l))...) }
	return []fault{
		{"head", func(m *api.Message) { m.Head.Opcode = 16 }, api.ErrRange},
		{"too many questions", func(m *api.Message) {
			m.Questions = append(slices.Clip(m.Questions), make([]api.Question, 65536-len(m.Questions))...)
		}, api.ErrLong},
		{"too many answers", func(m *api.Message) { many(&m.Answers) }, api.ErrLong},
		{"too many of authority", func(m *api.Message) { many(&m.Authority) }, api.ErrLong},
		{"too many extra ones", func(m *api.Message) { many(&m.Extra) }, api.ErrLong},
		{"first question's name", func(m *api.Message) { m.Questions[0].Name = api.Name{"a", ""} }, api.ErrLabel},
		{"first question's type", func(m *api.Message) { m.Questions[0].Type = 65536 }, api.ErrRange},
		{"first question's class", func(m *api.Message) { m.Questions[0].Class = -1 }, api.ErrRange},
		{"second question's name", func(m *api.Message) { m.Questions[1].Name = sized(256) }, api.ErrLong},
		{"second question's class", func(m *api.Message) { m.Questions[1].Class = 65536 }, api.ErrRange},
		{"first answer's name", func(m *api.Message) { m.Answers[0].Name = api.Name{strings.Repeat("x", 64)} }, api.ErrLabel},
		{"first answer's TTL", func(m *api.Message) { m.Answers[0].TTL = -1 }, api.ErrRange},
		{"first answer's target", func(m *api.Message) { m.Answers[0].Target = sized(256) }, api.ErrLong},
		{"first answer's Raw", func(m *api.Message) { m.Answers[0].Raw = "x" }, api.ErrForm},
		{"second answer's address", func(m *api.Message) { m.Answers[1].Addr.Family = api.Inet6 }, api.ErrKind},
		{"third answer's name", func(m *api.Message) { m.Answers[2].Name = sized(256) }, api.ErrLong},
		{"authority's numbers", func(m *api.Message) { m.Authority[0].Nums[4] = 1 << 32 }, api.ErrRange},
		{"authority's second name", func(m *api.Message) { m.Authority[1].Name = api.Name{""} }, api.ErrLabel},
		{"first extra one's port", func(m *api.Message) { m.Extra[0].Port = 65536 }, api.ErrRange},
		{"second extra one's address", func(m *api.Message) { m.Extra[1].Addr = v4 }, api.ErrForm},
		{"last one's Raw", func(m *api.Message) { m.Extra[3].Raw = strings.Repeat("x", 65536) }, api.ErrLong},
	}
}

// wrong holds what the calls tell of a message that may not be.
func wrong(t *testing.T, what string, m api.Message, want api.Errno) {
	t.Helper()
	if e := Check(m); e != want {
		t.Errorf("%s: Check: %v, want %v", what, e, want)
	}
	for _, pack := range []bool{false, true} {
		if s, e := Encode(m, pack); s != "" || e != want {
			t.Errorf("%s: Encode: %.200q, %v, want %v", what, s, e, want)
		}
	}
}

// Promise 14.1: each fault alone, and of two the first.
func TestFaults(t *testing.T) {
	if e := checks(t, full()); e != api.OK {
		t.Fatal(e)
	}
	l := faults()
	for i, first := range l {
		m := clone(full())
		first.make(&m)
		wrong(t, first.what, m, first.want)
		for _, second := range l[i+1:] {
			m := clone(full())
			first.make(&m)
			second.make(&m)
			wrong(t, first.what+", "+second.what, m, first.want)
		}
	}
}

// Promise 14.1: a question's numbers, and the head's, at their edges.
func TestNumbers(t *testing.T) {
	for _, n := range words {
		for _, o := range words {
			m := api.Message{Questions: []api.Question{{Name: www, Type: n, Class: o}}}
			want := api.OK
			if n < 0 || n > 65535 || o < 0 || o > 65535 {
				want = api.ErrRange
			}
			if e := checks(t, m); e != want {
				t.Errorf("Type %d, Class %d: %v, want %v", n, o, e, want)
			}
			undone(t, m)
		}
		for _, h := range []api.Head{{ID: n}, {Opcode: n}, {Rcode: n}} {
			checks(t, api.Message{Head: h})
			undone(t, api.Message{Head: h})
		}
	}
	for n := range 65536 {
		m := api.Message{Questions: []api.Question{{Type: n, Class: 65535 - n}}, Answers: []api.RR{{Type: 99, Class: n ^ 255, TTL: n * 65537}}}
		s, e := Encode(m, false)
		want := num(0, 0, 1, 1, 0, 0) + "\x00" + num(n, 65535-n) + "\x00" + num(99, n^255, n, n, 0)
		if s != want || e != api.OK {
			t.Fatalf("%d: %q, %v", n, s, e)
		}
		if g, e := Decode(s); !same(g, m) || e != api.OK {
			t.Fatalf("%d: %s, %v", n, text(g), e)
		}
	}
}

// Promise 14.1: lists that have as many members as may be, and one more; all of them are too long.
func TestLists(t *testing.T) {
	for _, n := range []int{65534, 65535, 65536, 65537, 200000} {
		want := api.OK
		if n > 65535 {
			want = api.ErrLong
		}
		l := make([]api.RR, n)
		for i, m := range []api.Message{{Questions: make([]api.Question, n)}, {Answers: l}, {Authority: l}, {Extra: l}, {Questions: make([]api.Question, n), Answers: l, Authority: l, Extra: l}} {
			if e := Check(m); e != want {
				t.Errorf("%d of the list %d: %v, want %v", n, i, e, want)
			}
			for _, pack := range []bool{false, true} {
				if s, e := Encode(m, pack); s != "" || e != api.ErrLong {
					t.Errorf("%d of the list %d: %.200q, %v", n, i, s, e)
				}
			}
		}
	}
}

// Promise 14.1: as many octets as there may be, and more, by each part that may be the last one.
func TestLong(t *testing.T) {
	// All but the Raw of one record in each list have so many octets.
	size := func(m api.Message) int {
		s, e := Encode(m, false)
		if e != api.OK {
			t.Fatal(e)
		}
		return len(s)
	}
	for list := range 3 {
		m := clone(full())
		m.Questions = m.Questions[1:]
		m.Authority = append(m.Authority, api.RR{Type: 99})
		l := *records(&m)[list]
		last := &l[len(l)-1]
		*last = api.RR{Type: 99}
		rest := size(m)
		for n := 65535 - rest - 3; n <= 65535; n++ {
			if n > 65535-rest+3 && n < 65533 {
				continue
			}
			last.Raw = strings.Repeat("x", n)
			want := api.OK
			if rest+n > 65535 {
				want = api.ErrLong
			}
			if s, e := puts(t, m, false); e != want || e == api.OK && len(s) != rest+n {
				t.Errorf("%d octets: %d, %v, want %v", rest+n, len(s), e, want)
			}
			undone(t, m)
			if e := Check(m); e != api.OK {
				t.Errorf("Check: %v", e)
			}
		}
		last.Raw += "x"
		wrong(t, "Raw", m, api.ErrLong)
	}
	for n, want := range map[int]api.Errno{13104: api.OK, 13105: api.ErrLong, 20000: api.ErrLong} {
		m := api.Message{Questions: make([]api.Question, n)}
		if s, e := puts(t, m, true); e != want || e == api.OK && len(s) != 12+5*n {
			t.Errorf("%d questions: %d octets, %v", n, len(s), e)
		}
		undone(t, m)
	}
	// Names, and records without data: five of them have room behind the others.
	m := api.Message{
		Questions: []api.Question{{Name: sized(255)}, {Name: sized(254)}},
		Authority: []api.RR{{Type: 99, Raw: strings.Repeat("x", 65535-12-259-258-11-5*11)}},
	}
	for n := range 9 {
		want := api.OK
		if n > 5 {
			want = api.ErrLong
		}
		if _, e := puts(t, m, false); e != want {
			t.Errorf("%d records: %v, want %v", n, e, want)
		}
		undone(t, m)
		m.Extra = append(m.Extra, api.RR{})
	}
}

// Promise 14.1: what is too long, but not if it is packed.
func TestLongPacked(t *testing.T) {
	name := sized(255)
	for _, n := range []int{1, 200, 247, 248, 5439, 5440, 6000} {
		m := api.Message{Answers: make([]api.RR, n)}
		for i := range m.Answers {
			m.Answers[i].Name = name
		}
		plain, want := 12+265*n, 12+265+12*(n-1)
		if s, e := puts(t, m, false); (e == api.OK) != (plain <= 65535) || e == api.OK && len(s) != plain {
			t.Errorf("%d records: %d octets, %v", n, len(s), e)
		}
		if s, e := puts(t, m, true); (e == api.OK) != (want <= 65535) || e == api.OK && len(s) != want {
			t.Errorf("%d records, packed: %d octets, %v", n, len(s), e)
		}
		undone(t, m)
	}
}

// Promise 14.2: octets that are no message, and of several errors the first one, as the octets stand.
func TestWrongOctets(t *testing.T) {
	long := strings.Repeat("\x3f"+strings.Repeat("x", 63), 4)
	for what, c := range map[string]struct {
		s    string
		want api.Errno
	}{
		"nothing":                            {"", api.ErrShort},
		"eleven octets":                      {strings.Repeat("\x00", 11), api.ErrShort},
		"more than a head":                   {strings.Repeat("\x00", 13), api.ErrMore},
		"much more":                          {strings.Repeat("\x00", 65535), api.ErrMore},
		"too much":                           {strings.Repeat("\x00", 65536), api.ErrLong},
		"too much of what is short":          {strings.Repeat("\xff", 65536), api.ErrLong},
		"far too much":                       {strings.Repeat("\x40", 200000), api.ErrLong},
		"no question":                        {num(0, 0, 1, 0, 0, 0), api.ErrShort},
		"no answer":                          {num(0, 0, 0, 1, 0, 0), api.ErrShort},
		"none of authority":                  {num(0, 0, 0, 0, 1, 0), api.ErrShort},
		"no extra one":                       {num(0, 0, 0, 0, 0, 1), api.ErrShort},
		"all counts":                         {num(0, 0, 65535, 65535, 65535, 65535), api.ErrShort},
		"one question less":                  {num(0, 0, 2, 0, 0, 0) + "\x00" + num(1, 1), api.ErrShort},
		"one question more":                  {num(0, 0, 1, 0, 0, 0) + "\x00" + num(1, 1) + "\x00" + num(1, 1), api.ErrMore},
		"a question's name":                  {num(0, 0, 1, 0, 0, 0) + "\x40" + num(1, 1), api.ErrLabel},
		"a question's name, short":           {num(0, 0, 1, 0, 0, 0) + "\x05ab" + num(1), api.ErrShort},
		"a question's name, long":            {num(0, 0, 1, 0, 0, 0) + long, api.ErrLong},
		"a question's name, on itself":       {num(0, 0, 1, 0, 0, 0) + "\xc0\x0c" + num(1, 1), api.ErrPointer},
		"a question's name, farther on":      {num(0, 0, 1, 0, 0, 0) + "\xc0\x12" + num(1, 1) + "\x00", api.ErrPointer},
		"no type":                            {num(0, 0, 1, 0, 0, 0) + "\x00", api.ErrShort},
		"half a type":                        {num(0, 0, 1, 0, 0, 0) + "\x00\x00", api.ErrShort},
		"no class":                           {num(0, 0, 1, 0, 0, 0) + "\x00" + num(1), api.ErrShort},
		"half a class":                       {num(0, 0, 1, 0, 0, 0) + "\x00" + num(1) + "\x00", api.ErrShort},
		"a bad name behind a short one":      {num(0, 0, 2, 0, 0, 0) + "\x00" + num(1) + "\x40", api.ErrShort},
		"a bad name, and short behind it":    {num(0, 0, 2, 0, 0, 0) + "\x40\x00", api.ErrLabel},
		"the second one's name":              {num(0, 0, 2, 0, 0, 0) + "\x00" + num(1, 1) + "\x80", api.ErrLabel},
		"a record's name":                    {num(0, 0, 0, 1, 0, 0) + "\xbf", api.ErrLabel},
		"a record's numbers":                 {num(0, 0, 0, 1, 0, 0) + "\x00" + num(1, 1, 0, 0) + "\x00", api.ErrShort},
		"no data":                            {num(0, 0, 0, 1, 0, 0) + "\x00" + num(99, 1, 0, 0, 1), api.ErrShort},
		"data as long as may be":             {num(0, 0, 0, 1, 0, 0) + "\x00" + num(99, 1, 0, 0, 65535), api.ErrShort},
		"data, short ahead of their own":     {num(0, 0, 0, 1, 0, 0) + "\x00" + num(1, 1, 0, 0, 5) + "abcd", api.ErrShort},
		"data with a bad name, short":        {num(0, 0, 0, 1, 0, 0) + "\x00" + num(5, 1, 0, 0, 2) + "\x40", api.ErrShort},
		"an A of five":                       {num(0, 0, 0, 1, 0, 0) + "\x00" + num(1, 1, 0, 0, 5) + "abcde", api.ErrForm},
		"an A of three":                      {num(0, 0, 0, 1, 0, 0) + "\x00" + num(1, 1, 0, 0, 3) + "abcd", api.ErrForm},
		"an AAAA of four":                    {num(0, 0, 0, 0, 1, 0) + "\x00" + num(28, 1, 0, 0, 4) + "abcd", api.ErrForm},
		"a CNAME with a bad name":            {num(0, 0, 0, 1, 0, 0) + "\x00" + num(5, 1, 0, 0, 2) + "\x40\x00", api.ErrLabel},
		"a CNAME that goes on":               {num(0, 0, 0, 1, 0, 0) + "\x00" + num(5, 1, 0, 0, 2) + "\x02ab\x00", api.ErrForm},
		"a CNAME, and more":                  {num(0, 0, 0, 0, 0, 1) + "\x00" + num(5, 1, 0, 0, 2) + "\x00\x00", api.ErrForm},
		"a PTR on itself":                    {num(0, 0, 0, 1, 0, 0) + "\x00" + num(12, 1, 0, 0, 2) + "\xc0\x17", api.ErrPointer},
		"an SRV without a name":              {num(0, 0, 0, 1, 0, 0) + "\x00" + num(33, 1, 0, 0, 6, 1, 2, 3), api.ErrForm},
		"an SOA without its last number":     {num(0, 0, 0, 1, 0, 0) + "\x00" + num(6, 1, 0, 0, 18) + "\x00\x00" + strings.Repeat("\x01", 16), api.ErrForm},
		"bad data ahead of too few records":  {num(0, 0, 0, 2, 0, 0) + "\x00" + num(1, 1, 0, 0, 3) + "abc", api.ErrForm},
		"bad data ahead of what is left":     {num(0, 0, 0, 1, 0, 0) + "\x00" + num(1, 1, 0, 0, 3) + "abc\x00", api.ErrForm},
		"bad data ahead of a bad name":       {num(0, 0, 0, 1, 1, 0) + "\x00" + num(1, 1, 0, 0, 3) + "abc\x40", api.ErrForm},
		"a bad name ahead of bad data":       {num(0, 0, 0, 1, 1, 0) + "\x40" + num(1, 1, 0, 0, 3) + "abc", api.ErrLabel},
		"a bad name behind what is too few":  {num(0, 0, 0, 0, 1, 1) + "\x00" + num(1, 1, 0, 0, 4) + "abcd\xc0", api.ErrShort},
		"questions ahead of answers":         {num(0, 0, 1, 1, 0, 0) + "\x00" + num(1, 1, 0, 0, 3) + "abc", api.ErrShort},
		"one record more":                    {num(0, 0, 0, 0, 0, 1) + "\x00" + num(1, 1, 0, 0, 4) + "abcd\x00", api.ErrMore},
		"one record less":                    {num(0, 0, 0, 0, 1, 1) + "\x00" + num(1, 1, 0, 0, 4) + "abcd", api.ErrShort},
		"a pointer into the head's own name": {num(0x0161, 0, 1, 0, 0, 0) + "\xc0\x00" + num(1), api.ErrShort},
	} {
		if _, e := gets(t, c.s); e != c.want {
			t.Errorf("%s: %v, want %v", what, e, c.want)
		}
	}
}

// Promise 14.2: octets that are a message, but not as Encode would have them.
func TestOtherPacking(t *testing.T) {
	a := api.Name{"a"}
	for what, c := range map[string]struct {
		s    string
		want api.Message
	}{
		"a pointer into the head": {num(0x0161, 0, 1, 0, 0, 0) + "\xc0\x00" + num(1, 1), api.Message{Head: api.Head{ID: 0x0161}, Questions: []api.Question{{Name: a, Type: 1, Class: 1}}}},
		"a pointer to the root":   {num(0, 0, 1, 0, 0, 0) + "\xc0\x00" + num(1, 1), api.Message{Questions: []api.Question{{Type: 1, Class: 1}}}},
		"a pointer into numbers":  {num(0, 0, 1, 1, 0, 0) + "\x00" + num(0x0161, 1) + "\xc0\x0d" + num(99, 9, 0, 0, 0), api.Message{Questions: []api.Question{{Type: 0x0161, Class: 1}}, Answers: []api.RR{{Name: api.Name{"a"}, Type: 99, Class: 9}}}},
		"a pointer into data":     {num(0, 0, 0, 2, 0, 0) + "\x00" + num(99, 9, 0, 0, 3) + "\x01a\x00" + "\xc0\x17" + num(99, 9, 0, 0, 0), api.Message{Answers: []api.RR{{Type: 99, Class: 9, Raw: "\x01a\x00"}, {Name: a, Type: 99, Class: 9}}}},
		"an SRV that is packed":   {num(0, 0, 1, 1, 0, 0) + "\x01a\x00" + num(33, 1) + "\xc0\x0c" + num(33, 1, 0, 9, 8, 1, 2, 3) + "\xc0\x0c", api.Message{Questions: []api.Question{{Name: a, Type: 33, Class: 1}}, Answers: []api.RR{{Name: a, Type: 33, Class: 1, TTL: 9, Pri: 1, Weight: 2, Port: 3, Target: a}}}},
		"packed by halves":        {num(0, 0, 2, 0, 0, 0) + "\x01a\x00" + num(1, 1) + "\x01a\x00" + num(1, 1), api.Message{Questions: []api.Question{{Name: a, Type: 1, Class: 1}, {Name: a, Type: 1, Class: 1}}}},
		"a bit that is not read":  {num(7, 64, 0, 0, 0, 0), api.Message{Head: api.Head{ID: 7}}},
		"data ahead of their own": {num(0, 0, 0, 1, 0, 0) + "\x01a\x00" + num(6, 1, 0, 0, 24) + "\xc0\x0c\xc0\x0c" + num(0, 1, 0, 2, 0, 3, 0, 4, 65535, 65535), api.Message{Answers: []api.RR{{Name: a, Type: 6, Class: 1, Target: a, Mail: a, Nums: [5]int{1, 2, 3, 4, 1<<32 - 1}}}}},
	} {
		if m, e := gets(t, c.s); !same(m, c.want) || e != api.OK {
			t.Errorf("%s: %s, %v", what, text(m), e)
		}
		redone(t, c.s)
	}
}

// Promise 14.2: each piece of a message ahead of its end is short; what has more behind it is more.
func TestPieces(t *testing.T) {
	for _, m := range samples() {
		for _, pack := range []bool{false, true} {
			s, e := puts(t, m, pack)
			if e != api.OK {
				t.Fatal(text(m), e)
			}
			for i := range s {
				if _, e := gets(t, s[:i]); e != api.ErrShort {
					t.Errorf("%d of %q: %v", i, s, e)
				}
			}
			for _, more := range []string{"\x00", "\xff", "\xc0\x0c", s} {
				if _, e := gets(t, s+more); e != api.ErrMore {
					t.Errorf("%q and %q: %v", s, more, e)
				}
			}
		}
	}
}

// Promise 14.2: each octet of a message as each other one.
func TestEachOctet(t *testing.T) {
	for _, m := range samples() {
		for _, pack := range []bool{false, true} {
			s, _ := puts(t, m, pack)
			// The long ones have the same parts, but more of them.
			if len(s) > 350 {
				continue
			}
			b := []byte(s)
			for i := range b {
				for c := range 256 {
					b[i] = byte(c)
					gets(t, string(b))
				}
				b[i] = s[i]
			}
		}
	}
}

// Promise 14.2: each octet taken out of a message, and octets put into it.
func TestShifts(t *testing.T) {
	for _, m := range samples() {
		for _, pack := range []bool{false, true} {
			s, _ := puts(t, m, pack)
			for i := range min(len(s), 420) {
				for n := range min(5, len(s)-i) {
					redone(t, s[:i]+s[i+n:])
				}
				for _, more := range []string{"\x00", "\x01", "\x3f", "\x40", "\xc0", "\xc0\x00", "\x00\x00", "\xff\xff"} {
					redone(t, s[:i]+more+s[i:])
				}
			}
		}
	}
}

// Promise 14.2 and 14.3: all short texts of octets that matter, as a question, as a record's name, and as data.
func TestShortTexts(t *testing.T) {
	const octets = "\x00\x01\x02a\x40\xc0\x0c"
	var all func(s string, left int)
	all = func(s string, left int) {
		redone(t, num(0, 0, 1, 0, 0, 0)+s)
		redone(t, num(0, 0, 1, 0, 0, 0)+s+num(1, 1))
		redone(t, num(0, 0, 0, 0, 1, 0)+s+num(99, 1, 0, 0, 2, 0xc00c))
		redone(t, num(0, 0, 1, 0, 0, 1)+"\x01b\x00"+num(1, 1)+"\x00"+num(5, 1, 0, 9, len(s))+s)
		redone(t, num(0, 0, 0, 2, 0, 0)+"\x01b\x00"+num(33, 1, 0, 0, len(s)+6, 1, 2, 3)+s+"\xc0\x0c"+num(9, 9, 0, 0, 0))
		if left == 0 {
			return
		}
		for i := range len(octets) {
			all(s+octets[i:i+1], left-1)
		}
	}
	all("", 5)
}

// Promise 14.3: counts of all lists, with as many octets as each needs, and such as there are not.
func TestCounts(t *testing.T) {
	for _, have := range []int{0, 1, 2, 3, 12} {
		s := strings.Repeat("\x00"+num(0, 0, 0, 0, 0), have)
		for a := range 4 {
			for b := range 4 {
				for c := range 4 {
					redone(t, num(0, 0, 0, a, b, c)+s)
					redone(t, num(0, 0, a, b, c, 0)+strings.Repeat("\x00"+num(0, 0), a)+s)
					redone(t, num(0, 0, a, b, 0, c)+s)
				}
			}
		}
	}
	// As many as can be, of the shortest ones; and as many as can be told.
	for n := 5950; n < 5960; n++ {
		redone(t, num(0, 0, 0, 0, n, 0)+strings.Repeat("\x00"+num(0, 0, 0, 0, 0), n))
	}
	for _, n := range []int{1, 65535} {
		for i := range 4 {
			counts := [4]int{}
			counts[i] = n
			redone(t, num(0, 0)+num(counts[:]...)+strings.Repeat("\x00", 65523))
		}
	}
}

// draws are numbers that are the same each time.
type draws uint32

func (d *draws) below(n int) int {
	*d = *d*1664525 + 1013904223
	return int(*d>>16) % n
}

// name is some name that may be.
func (d *draws) name() api.Name {
	labels := []string{"a", "b", "A", "\x00", "a.b", "\xc0\x0c", "\x01a", strings.Repeat("x", 63), "host", "example"}
	for {
		var n api.Name
		for range d.below(6) {
			n = append(n, labels[d.below(len(labels))])
		}
		if plainName(n) == 0 {
			return n
		}
	}
}

// record is some record that may be.
func (d *draws) record() api.RR {
	r := api.RR{Name: d.name(), Type: []int{1, 28, 5, 12, 33, 6, 41, 16}[d.below(8)], Class: 1, TTL: d.below(65536) * 65537}
	if d.below(9) == 0 {
		r.Class = 2 + d.below(65534)
	}
	switch {
	case r.Class != 1 || r.Type == 41 || r.Type == 16:
		r.Raw = strings.Repeat("\xc0\x0c\x01a", d.below(300))
	case r.Type == 1:
		r.Addr = api.Addr{Family: 4, IP: [16]byte{byte(d.below(256)), 1, 2, byte(d.below(256))}}
	case r.Type == 28:
		r.Addr = api.Addr{Family: 6, IP: [16]byte{byte(d.below(256)), 1, 2, 15: byte(d.below(256))}}
	case r.Type == 33:
		r.Pri, r.Weight, r.Port, r.Target = d.below(65536), d.below(65536), d.below(65536), d.name()
	case r.Type == 6:
		r.Target, r.Mail, r.Nums = d.name(), d.name(), [5]int{d.below(65536), 1, d.below(65536) << 16, 3, 4}
	default:
		r.Target = d.name()
	}
	return r
}

// message is some message that may be.
func (d *draws) message(most int) api.Message {
	m := api.Message{Head: api.Head{ID: d.below(65536), QR: d.below(2) == 0, Opcode: d.below(16), AA: d.below(2) == 0, TC: d.below(2) == 0, RD: d.below(2) == 0, RA: d.below(2) == 0, AD: d.below(2) == 0, CD: d.below(2) == 0, Rcode: d.below(16)}}
	for range d.below(4) {
		m.Questions = append(m.Questions, api.Question{Name: d.name(), Type: d.below(65536), Class: d.below(65536)})
	}
	for _, l := range []*[]api.RR{&m.Answers, &m.Authority, &m.Extra} {
		for range d.below(most) {
			*l = append(*l, d.record())
		}
	}
	return m
}

// Promise 14.3: messages that may be, few and many records in each list, are decoded as they were encoded.
func TestUndone(t *testing.T) {
	for _, m := range samples() {
		undone(t, m)
	}
	d := draws(1)
	for range 1500 {
		undone(t, d.message(6))
	}
	for range 60 {
		undone(t, d.message(200))
	}
}

// Promise 14.2 and P1: names of as many pointers as there may be, in each record.
func TestChains(t *testing.T) {
	chain := "\x01a\x00"
	last := 23
	for 23+len(chain) < 0x3ffc {
		at := 23 + len(chain)
		chain += num(0xc000 + last)
		last = at
	}
	s := "\x00" + num(99, 1, 0, 0, len(chain)) + chain
	n := 1
	for 12+len(s)+14 <= 65535 {
		s += num(0xc000+last) + num(12, 1, 0, 0, 2, 0xc000+last)
		n++
	}
	s = num(0, 0, 0, n, 0, 0) + s
	m, e := Decode(s)
	if e != api.OK || len(m.Answers) != n {
		t.Fatal(len(m.Answers), e)
	}
	for _, r := range m.Answers[1:] {
		if !slices.Equal(r.Name, api.Name{"a"}) || !slices.Equal(r.Target, api.Name{"a"}) {
			t.Fatalf("%q, %q", r.Name, r.Target)
		}
	}
}

// What a Decode told stays what it was, whatever is asked later, and no two of its lists are one.
func TestKept(t *testing.T) {
	s, _ := Encode(full(), true)
	first, _ := Decode(s)
	second, _ := Decode(s)
	for i := range second.Questions {
		second.Questions[i].Name = append(second.Questions[i].Name, "z")
	}
	for _, l := range []*[]api.RR{&second.Answers, &second.Authority, &second.Extra} {
		for i := range *l {
			for _, n := range []api.Name{(*l)[i].Name, (*l)[i].Target, (*l)[i].Mail} {
				for j := range n {
					if n[j] == "z" {
						t.Error("two names share")
					}
					n[j] = "z"
				}
			}
		}
		*l = append(*l, api.RR{})
	}
	if !same(first, full()) {
		t.Errorf("%s", text(first))
	}
}

// P1: whatever the arguments, every call ends and tells what the plain ways tell.
func FuzzMessage(f *testing.F) {
	for i, m := range samples() {
		s, _ := Encode(m, i%2 == 0)
		f.Add(s, i, i-1, 1<<i, "a", "raw")
	}
	f.Add(strings.Repeat("\xff", 65535), leastInt, mostInt, 65536, "", "")
	f.Add(strings.Repeat("\x00", 65536), 28, 1, 65535, strings.Repeat("x", 64), strings.Repeat("\xc0", 16))
	f.Fuzz(func(t *testing.T, s string, x, y, z int, label, raw string) {
		redone(t, s)
		if len(s) > 12 {
			for _, counts := range [][]int{{1, 0, 0, 0}, {0, 1, 0, 0}, {1, 1, 0, 0}, {0, 0, 1, 1}, {1, 1, 1, 1}} {
				redone(t, s[:4]+num(counts...)+s[12:])
			}
		}
		address := api.Addr{Family: y}
		copy(address.IP[:], raw)
		n := api.Name{label, "b"}
		r := api.RR{Name: n, Type: x, Class: y, TTL: z, Raw: raw}
		for _, m := range []api.Message{
			{Head: api.Head{ID: x, Opcode: y, Rcode: z}, Questions: []api.Question{{Name: n, Type: x, Class: y}, {Name: n, Type: z}}},
			{Answers: []api.RR{r, r}, Authority: []api.RR{{Name: n, Type: 5, Class: 1, Target: n}}, Extra: []api.RR{r}},
			{Questions: []api.Question{{Name: api.Name{raw}}}, Extra: []api.RR{{Type: x, Class: 1, Addr: address, Target: n, Mail: n, Pri: z, Raw: raw}}},
			{Answers: []api.RR{{Type: 33, Class: 1, Pri: x & 65535, Weight: y & 65535, Port: z & 65535, Target: n}, {Name: n, Type: 6, Class: 1, Target: n, Mail: api.Name{label}, Nums: [5]int{x & 65535, y, z}}}},
		} {
			checks(t, m)
			undone(t, m)
		}
	})
}
