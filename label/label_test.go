package label

import (
	"regexp"
	"slices"
	"strings"
	"testing"
	"unicode/utf8"

	"wayfinder/api"
	"wayfinder/puny"
)

// hosts are the labels of hosts, but for how many bytes they may have.
var hosts = regexp.MustCompile(`^[0-9A-Za-z]([-0-9A-Za-z]*[0-9A-Za-z])?$`)

// fars are the folded texts that may be written as labels, but for how long that is: letters, digits, hyphens and far points, of these no dots.
var fars = regexp.MustCompile(`^[0-9a-z\x{80}-\x{3001}\x{3003}-\x{ff0d}\x{ff0f}-\x{ff60}\x{ff62}-\x{10ffff}]([-0-9a-z\x{80}-\x{3001}\x{3003}-\x{ff0d}\x{ff0f}-\x{ff60}\x{ff62}-\x{10ffff}]*[0-9a-z\x{80}-\x{3001}\x{3003}-\x{ff0d}\x{ff0f}-\x{ff60}\x{ff62}-\x{10ffff}])?$`)

// plainFold is a text with small letters, byte by byte.
func plainFold(s string) string {
	out := []byte(s)
	for i, c := range out {
		if 'A' <= c && c <= 'Z' {
			out[i] = c + 32
		}
	}
	return string(out)
}

// plainHost is Host by another way: by a pattern.
func plainHost(s string) bool {
	return len(s) <= 63 && hosts.MatchString(s)
}

// plainASCII is ToASCII by another way: by patterns.
func plainASCII(s string) (string, api.Errno) {
	s = plainFold(s)
	if strings.IndexFunc(s, func(c rune) bool { return c > 127 }) < 0 {
		if !plainHost(s) {
			return "", api.ErrLabel
		}
		return s, api.OK
	}
	if !utf8.ValidString(s) {
		return "", api.ErrForm
	}
	if !fars.MatchString(s) {
		return "", api.ErrLabel
	}
	out, e := puny.Encode([]rune(s))
	if e != api.OK {
		return "", e
	}
	if len(out) > 59 {
		return "", api.ErrLabel
	}
	return "xn--" + out, api.OK
}

// plainUnicode is ToUnicode by another way: what is decoded must be what may be written, and be written so.
func plainUnicode(s string) string {
	t := plainFold(s)
	if len(t) < 4 || t[:4] != "xn--" || !plainHost(t) {
		return s
	}
	l, e := puny.Decode(t[4:])
	if e != api.OK {
		return s
	}
	for _, c := range l {
		if !utf8.ValidRune(c) {
			return s
		}
	}
	if again, _ := plainASCII(string(l)); again != t {
		return s
	}
	return string(l)
}

// texts are all texts of up to most of some parts.
func texts(most int, parts ...string) []string {
	all := []string{""}
	last := all
	for range most {
		var next []string
		for _, s := range last {
			for _, p := range parts {
				next = append(next, s+p)
			}
		}
		all = append(all, next...)
		last = next
	}
	return all
}

// row is n times a text.
func row(n int, s string) string { return strings.Repeat(s, n) }

// short is a text as a message has room for.
func short(s string) string { return s[:min(len(s), 80)] }

// Promise 4.1.
func TestHost(t *testing.T) {
	for _, c := range []struct {
		s    string
		want bool
	}{
		{"", false},
		{"a", true}, {"Z", true}, {"0", true}, {"9", true},
		{"www", true}, {"WWW", true}, {"a1-2", true}, {"3com", true}, {"127", true},
		{"a-b", true}, {"a--b", true}, {"xn--bcher-kva", true}, {"xn--", false},
		{"-", false}, {"--", false}, {"-a", false}, {"a-", false}, {"-a-", false}, {"a--", false},
		{"a.b", false}, {"a.", false}, {".", false}, {"a_b", false}, {"_sip", false}, {"a b", false}, {" a", false}, {"a ", false}, {"a\n", false}, {"a\x00", false}, {"a*", false},
		{"b\u00fccher", false}, {"\u00fc", false}, {"\xff", false}, {"a\x80b", false}, {"\u212a", false}, {"a\u0661", false}, {"a\uff10b", false},
		// 63 bytes.
		{row(62, "a"), true}, {row(63, "a"), true}, {row(64, "a"), false}, {row(1000, "a"), false},
		{"0" + row(61, "-") + "Z", true}, {"0" + row(62, "-") + "Z", false},
		{row(62, "a") + "-", false}, {"-" + row(62, "a"), false}, {row(31, "a") + "_" + row(31, "a"), false},
	} {
		if got := Host(c.s); got != c.want {
			t.Errorf("Host(%q): %v", c.s, got)
		}
		if got := plainHost(c.s); got != c.want {
			t.Errorf("the plain way of %q: %v", c.s, got)
		}
	}
}

// Promise 4.1: each byte, alone and at each place of a longer one.
func TestHostBytes(t *testing.T) {
	const inside = "-0123456789ABCDEFGHIJKLMNOPQRSTUVWXYZabcdefghijklmnopqrstuvwxyz"
	for b := range 256 {
		at := strings.IndexByte(inside, byte(b))
		s := string([]byte{byte(b)})
		for _, c := range []struct {
			s    string
			want bool
		}{{s, at > 0}, {s + "a", at > 0}, {"a" + s, at > 0}, {"a" + s + "a", at >= 0}, {"a-" + s + "-a", at >= 0}} {
			if got := Host(c.s); got != c.want {
				t.Errorf("Host(%q): %v", c.s, got)
			}
		}
	}
}

// Promise 4.2, and example 1.
func TestToASCII(t *testing.T) {
	for _, c := range []struct {
		s, want string
		e       api.Errno
	}{
		// All below 128.
		{"a", "a", api.OK},
		{"Abc", "abc", api.OK},
		{"WWW", "www", api.OK},
		{"a1-2", "a1-2", api.OK},
		{"A--Z", "a--z", api.OK},
		{"XN--BCHER-KVA", "xn--bcher-kva", api.OK},
		{"xn--zzzzzzz9", "xn--zzzzzzz9", api.OK},
		{"Xn--A", "xn--a", api.OK},
		{row(63, "A"), row(63, "a"), api.OK},
		{"", "", api.ErrLabel},
		{"-", "", api.ErrLabel},
		{"-a", "", api.ErrLabel},
		{"a-", "", api.ErrLabel},
		{"a_b", "", api.ErrLabel},
		{"a b", "", api.ErrLabel},
		{"a.b", "", api.ErrLabel},
		{"a\x7f", "", api.ErrLabel},
		{"\x00", "", api.ErrLabel},
		{"xn--", "", api.ErrLabel},
		{row(64, "a"), "", api.ErrLabel},
		{row(5000, "a"), "", api.ErrLabel},
		// One that is not.
		{"B\u00fccher", "xn--bcher-kva", api.OK},
		{"b\u00fccher", "xn--bcher-kva", api.OK},
		{"m\u00fcnchen", "xn--mnchen-3ya", api.OK},
		{"\u00fc", "xn--tda", api.OK},
		{"\u0080", "xn--a", api.OK},
		{"\u4f8b\u3048", "xn--r8jz45g", api.OK},
		{"\U0010ffff", "xn--dn32g", api.OK},
		{"\ufffd", "xn--zn7c", api.OK},
		{"\u00fc-a", "xn---a-wka", api.OK},
		{"a-\u00fc", "xn--a--yka", api.OK},
		{"xn--\u00fc", "xn--xn---3ra", api.OK},
		{"0\u00fc9", "xn--09-xka", api.OK},
		// Only A to Z are made small; nothing is put together, or taken out.
		{"\u00dc", "xn--wca", api.OK},
		{"B\u00dcCHER", "xn--bcher-2pa", api.OK},
		{"\u212a", "xn--62g", api.OK},
		{"\u0130", "xn--bfa", api.OK},
		{"\u00df", "xn--zca", api.OK},
		{"\u017f", "xn--kha", api.OK},
		{"u\u0308", "xn--u-ccb", api.OK},
		{"\u00ad", "xn--kba", api.OK},
		{"\u200d", "xn--1ug", api.OK},
		// No points.
		{"\xff", "", api.ErrForm},
		{"a\x80", "", api.ErrForm},
		{"\xc3", "", api.ErrForm},
		{"\xc0\x80", "", api.ErrForm},
		{"\xed\xa0\x80", "", api.ErrForm},
		{"\xf4\x90\x80\x80", "", api.ErrForm},
		{"\u00fc\xff", "", api.ErrForm},
		// Points that may not be.
		{"\u00fc ", "", api.ErrLabel},
		{"\u00fc_a", "", api.ErrLabel},
		{"\u00fc.a", "", api.ErrLabel},
		{"a.\u00fc", "", api.ErrLabel},
		{"\x00\u00fc", "", api.ErrLabel},
		{"\u00fc\x7f", "", api.ErrLabel},
		{"\u00fc-", "", api.ErrLabel},
		{"-\u00fc", "", api.ErrLabel},
		{"-\u00fc-", "", api.ErrLabel},
		{"\u00fc--", "", api.ErrLabel},
		// Dots.
		{"\u3002", "", api.ErrLabel},
		{"\uff0e", "", api.ErrLabel},
		{"\uff61", "", api.ErrLabel},
		{"a\u3002b", "", api.ErrLabel},
		{"\u00fc\uff0e", "", api.ErrLabel},
		{"\uff61\u00fc", "", api.ErrLabel},
		// Their neighbours, and what looks like a dot, or a hyphen, are none.
		{"\u3001", "xn--q6j", api.OK},
		{"\u3003", "xn--s6j", api.OK},
		{"\uff0d", "xn--4g7c", api.OK},
		{"\uff0f", "xn--6g7c", api.OK},
		{"\uff60", "xn--ij7c", api.OK},
		{"\uff62", "xn--kj7c", api.OK},
		{"\u2024", "xn--pvg", api.OK},
	} {
		if got, e := ToASCII(c.s); got != c.want || e != c.e {
			t.Errorf("ToASCII(%q): %q, %v, want %q, %v", short(c.s), got, e, c.want, c.e)
		}
		if got, e := plainASCII(c.s); got != c.want || e != c.e {
			t.Errorf("the plain way of %q: %q, %v", short(c.s), got, e)
		}
	}
}

// Promise 4.2: 63 bytes in all, and the order of the errors.
func TestToASCIIEdges(t *testing.T) {
	for i, c := range []struct {
		s string
		e api.Errno
	}{
		// xn--tda and an a for each further one.
		{row(56, "\u00fc"), api.OK},
		{row(57, "\u00fc"), api.OK},
		{row(58, "\u00fc"), api.ErrLabel},
		{row(300, "\u00fc"), api.ErrLabel},
		// xn--, 55, a hyphen and three figures.
		{row(54, "a") + "\u00fc", api.OK},
		{row(55, "a") + "\u00fc", api.OK},
		{row(56, "a") + "\u00fc", api.ErrLabel},
		{row(63, "a") + "\u00fc", api.ErrLabel},
		// No points: ahead of all else.
		{"\xff-", api.ErrForm},
		{"-\xff", api.ErrForm},
		{" \xff", api.ErrForm},
		{"\u3002\xff", api.ErrForm},
		{row(64, "a") + "\xff", api.ErrForm},
		{row(5000, "\u00fc") + "\xff", api.ErrForm},
		{row(5000, "-") + "\xff", api.ErrForm},
		// A point that may not be: ahead of what Encode says.
		{row(4096, "\u00fc") + "-", api.ErrLabel},
		{"-" + row(4096, "\u00fc"), api.ErrLabel},
		{row(4096, "\u00fc") + " a", api.ErrLabel},
		{row(4096, "\u00fc") + "\u3002a", api.ErrLabel},
		{row(4096, "a") + "\uff0e", api.ErrLabel},
		{row(4095, "_") + "\U0010ffff", api.ErrLabel},
		// What Encode says: ahead of how long it is.
		{row(4096, "\u00fc"), api.ErrLabel},
		{row(4097, "\u00fc"), api.ErrLong},
		{row(4095, "a") + "\u00fc", api.ErrLabel},
		{row(4096, "a") + "\u00fc", api.ErrLong},
		{row(4096, "a") + "\U0010ffff", api.ErrLong},
		{row(4095, "a") + "\U0010007f", api.ErrLabel},
		{row(4095, "a") + "\U00100080", api.ErrOver},
		{row(4095, "A") + "\U00100080", api.ErrOver},
		{"\U0010ffff" + row(4095, "a"), api.ErrOver},
	} {
		want, e := plainASCII(c.s)
		if e != c.e {
			t.Errorf("the plain way of row %d: %v", i, e)
		}
		if got, e := ToASCII(c.s); got != want || e != c.e {
			t.Errorf("row %d: %q, %v, want %v", i, got, e, c.e)
		}
	}
	for _, s := range []string{row(57, "\u00fc"), row(55, "a") + "\u00fc"} {
		if got, _ := ToASCII(s); len(got) != 63 {
			t.Errorf("%q: %q", s, got)
		}
	}
}

// Promise 4.3, and example 1.
func TestToUnicode(t *testing.T) {
	for _, c := range []struct{ s, want string }{
		{"xn--bcher-kva", "b\u00fccher"},
		{"XN--BCHER-KVA", "b\u00fccher"},
		{"xN--Bcher-KVa", "b\u00fccher"},
		{"Xn--MNCHEN-3ya", "m\u00fcnchen"},
		{"xn--tda", "\u00fc"},
		{"xn--a", "\u0080"},
		{"xn--wca", "\u00dc"},
		{"xn--r8jz45g", "\u4f8b\u3048"},
		{"xn--dn32g", "\U0010ffff"},
		{"xn--zn7c", "\ufffd"},
		{"xn---a-wka", "\u00fc-a"},
		{"xn--a--yka", "a-\u00fc"},
		{"xn--xn---3ra", "xn--\u00fc"},
		{"xn--q6j", "\u3001"},
		{"xn--kj7c", "\uff62"},
		{"xn--tda" + row(56, "a"), row(57, "\u00fc")},
		// All others stay, their great letters too.
		{"", ""},
		{"abc", "abc"},
		{"ABC", "ABC"},
		{"B\u00dcCHER", "B\u00dcCHER"},
		{"-", "-"},
		{"\xff\x00A", "\xff\x00A"},
		{"xn-", "xn-"},
		{"xn-tda", "xn-tda"},
		{"xn--", "xn--"},
		{"XN--", "XN--"},
		{"xm--tda", "xm--tda"},
		{"axn--tda", "axn--tda"},
		{" xn--tda", " xn--tda"},
		{"xn-\u2010tda", "xn-\u2010tda"},
		{"tda", "tda"},
		// No host's labels.
		{"XN--A_B-KVA", "XN--A_B-KVA"},
		{"xn--b\u00fccher-kva", "xn--b\u00fccher-kva"},
		{"xn--\u00fc", "xn--\u00fc"},
		{"xn--tda\x00", "xn--tda\x00"},
		{"xn--tda.", "xn--tda."},
		{"xn--a.b-tda", "xn--a.b-tda"},
		{"XN--Abc-", "XN--Abc-"},
		{"xn--tda" + row(57, "a"), "xn--tda" + row(57, "a")},
		{"XN--" + row(5000, "a"), "XN--" + row(5000, "a")},
		// What Decode doesn't take.
		{"xn--zzzzzzz9", "xn--zzzzzzz9"},
		{"XN--Z", "XN--Z"},
		{"xn--bcher-kv", "xn--bcher-kv"},
		{"xn--99999999999", "xn--99999999999"},
		{"xn--999999b", "xn--999999b"},
		// Points that are none of a text.
		{"xn--ib9b", "xn--ib9b"},
		{"XN--A-RC4G", "XN--A-RC4G"},
		{"xn--zy0c", "xn--zy0c"},
		// Points of which ToASCII makes nothing.
		{"xn--r6j", "xn--r6j"},
		{"xn--5g7c", "xn--5g7c"},
		{"Xn--Jj7c", "Xn--Jj7c"},
		{"xn--a-93t", "xn--a-93t"},
		{"xn----eha", "xn----eha"},
		{"xn----dha", "xn----dha"},
		// Points of which ToASCII makes another one: those of xn--tda.
		{"xn---tda", "xn---tda"},
		{"XN---TDA", "XN---TDA"},
		{"xn---a", "xn---a"},
	} {
		if got := ToUnicode(c.s); got != c.want {
			t.Errorf("ToUnicode(%q): %q, want %q", short(c.s), got, c.want)
		}
		if got := plainUnicode(c.s); got != c.want {
			t.Errorf("the plain way of %q: %q", short(c.s), got)
		}
	}
}

// check holds what all calls answer of a text against the plain ways, and against what follows.
func check(t *testing.T, s string) {
	if got := Host(s); got != plainHost(s) {
		t.Errorf("Host(%q): %v", short(s), got)
	}
	if got, want := ToUnicode(s), plainUnicode(s); got != want {
		t.Errorf("ToUnicode(%q): %q, want %q", short(s), short(got), short(want))
	}
	want, wantE := plainASCII(s)
	got, e := ToASCII(s)
	if got != want || e != wantE {
		t.Errorf("ToASCII(%q): %q, %v, want %q, %v", short(s), got, e, want, wantE)
	}
	if e == api.OK {
		follows(t, s, got)
	}
}

// follows holds what ToASCII made of a text against promise 4.4.
func follows(t *testing.T, s, got string) {
	if !Host(got) {
		t.Errorf("%q of %q is no host's label", got, s)
	}
	if again, e := ToASCII(got); again != got || e != api.OK {
		t.Errorf("%q of %q doesn't stay: %q, %v", got, s, again, e)
	}
	isFar := strings.IndexFunc(s, func(c rune) bool { return c > 127 }) >= 0
	if back := ToUnicode(got); isFar && back != plainFold(s) {
		t.Errorf("%q of %q is read as %q", got, s, back)
	}
}

// Promises 4.1, 4.2, 4.3 and 4.4: all short texts of parts at which something changes.
func TestAll(t *testing.T) {
	for _, s := range texts(5, "-", "a", "Z", "0", "_", "\u0080", "\u00fc", "\u3002", "\U0010ffff", "\xff") {
		check(t, s)
	}
	for _, s := range texts(6, "-", "a", "T", "d", "9", "z") {
		check(t, "xn--"+s)
		check(t, "Xn-"+s)
	}
	for _, s := range texts(6, "X", "n", "-", "a") {
		check(t, s)
	}
}

// Promises 4.2, 4.3 and 4.4: each point alone, and many of them among others; and each as it would be written, though some may not be.
func TestEachPoint(t *testing.T) {
	for c := rune(0); c <= 0x10ffff; c++ {
		lists := [][]rune{{c}}
		if c < 0x3100 || 0xd700 < c && c < 0x10100 || c%257 == 0 {
			lists = append(lists, []rune{'a', c, 'B'}, []rune{0xfc, c}, []rune{c, 0xfc, '-', '0'})
		}
		for _, l := range lists {
			if utf8.ValidRune(c) {
				check(t, string(l))
			}
			s, _ := puny.Encode(l)
			check(t, "xn--"+s)
		}
	}
}

// Promises 4.2 and 4.4: texts of each length about the edges, of one part or of two.
func TestLengths(t *testing.T) {
	for n := range 70 {
		for _, p := range []string{"", "a", "\u00fc", "\u20ac", "\U0001f600", "-", "\xff"} {
			for _, q := range []string{"a", "-", "\u00fc", "\u4f8b", "\u4f8b\u3048", "\u00fca", "xn--", "\U0010ffff"} {
				check(t, p+row(n, q))
				check(t, row(n, q)+p)
				check(t, "xn--"+row(n, q)+p)
				check(t, "xn--"+p+row(n, q))
			}
		}
	}
}

// Promise 4.4: as what is made tells what was asked but for great letters, the same is made of two texts only if they are one but for these (here none begins with xn--).
func TestOneForOne(t *testing.T) {
	made := map[string]string{}
	for _, s := range texts(4, "a", "B", "b", "-", "0", "\u00fc", "\u00dc", "\u3048") {
		got, e := ToASCII(s)
		if e != api.OK {
			continue
		}
		if was, ok := made[got]; ok && was != plainFold(s) {
			t.Errorf("%q is made of %q and of %q", got, was, s)
		}
		made[got] = plainFold(s)
	}
	if len(made) < 1000 {
		t.Errorf("only %d labels were made", len(made))
	}
}

// What is asked often is answered alike, whatever was asked between.
func TestNothingIsKept(t *testing.T) {
	l := []string{"B\u00fccher", "xn--bcher-kva", "\xff", "", "-a", "XN--TDA"}
	var first []string
	for range 3 {
		var out []string
		for _, s := range l {
			got, e := ToASCII(s)
			out = append(out, got, e.Error(), ToUnicode(s))
		}
		if first == nil {
			first = out
		}
		if !slices.Equal(first, out) {
			t.Errorf("%q, then %q", first, out)
		}
	}
}

// Promises 4.1, 4.2, 4.3, 4.4 and P1, at any bytes: as a text, and as one that is written.
func FuzzLabel(f *testing.F) {
	for _, s := range []string{"", "Abc", "-a", "a_b", "B\u00fccher", "XN--BCHER-KVA", "xn---tda", "xn--r6j", "xn--ib9b", "\u3002", "\xff", "\u00fc-", "bcher-kva"} {
		f.Add(s)
	}
	f.Fuzz(func(t *testing.T, s string) {
		check(t, s)
		check(t, "xn--"+s)
		if written, e := puny.Encode([]rune(s)); e == api.OK {
			check(t, "Xn--"+written)
		}
	})
}
