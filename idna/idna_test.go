package idna

import (
	"regexp"
	"slices"
	"strings"
	"testing"
	"unicode/utf8"

	"wayfinder/api"
	"wayfinder/domain"
	"wayfinder/label"
)

// dots are what stands between the labels of a name as people write it.
var dots = regexp.MustCompile(`[.\x{3002}\x{ff0e}\x{ff61}]`)

// plainHost is Host by another way: cut by a pattern, and its size told by the text as a whole.
func plainHost(s string) (string, api.Errno) {
	if !utf8.ValidString(s) {
		return "", api.ErrForm
	}
	l := dots.Split(s, -1)
	last := len(l) - 1
	var out []string
	for i, part := range l {
		if part == "" && i == last && i > 0 {
			out = append(out, "")
			continue
		}
		if part == "" {
			return "", api.ErrName
		}
		t, e := label.ToASCII(part)
		if e != api.OK {
			return "", e
		}
		out = append(out, t)
	}
	joined := strings.Join(out, ".")
	if len(strings.TrimSuffix(joined, "."))+2 > 255 {
		return "", api.ErrLong
	}
	return joined, api.OK
}

// plainUnicode is Unicode by another way: from one dot to the next.
func plainUnicode(s string) string {
	out := ""
	for {
		ahead, behind, ok := strings.Cut(s, ".")
		out += label.ToUnicode(ahead)
		if !ok {
			return out
		}
		out += "."
		s = behind
	}
}

// row is n times a text.
func row(n int, s string) string { return strings.Repeat(s, n) }

// long is a label of n bytes.
func long(n int) string { return row(n, "a") }

// full is a written name of a size from 194 on, without a dot at its end.
func full(size int) string { return row(3, long(63)+".") + long(size-194) }

// short is a text as a message has room for.
func short(s string) string { return s[:min(len(s), 80)] }

// many are all texts of up to most of some parts.
func many(most int, parts ...string) []string {
	all := []string{""}
	last := all
	for range most {
		var next []string
		for _, s := range last {
			for _, p := range parts {
				next = append(next, s+p)
			}
		}
		all = append(all, next...)
		last = next
	}
	return all
}

// hosted holds what Host answers against what is wanted.
func hosted(t *testing.T, s, want string, wantE api.Errno) {
	t.Helper()
	if got, e := Host(s); got != want || e != wantE {
		t.Errorf("Host(%q): %q, %v, want %q, %v", short(s), short(got), e, short(want), wantE)
	}
	if got, e := plainHost(s); got != want || e != wantE {
		t.Errorf("the plain way of %q: %q, %v", short(s), short(got), e)
	}
}

// Promise 6.1, and example 1.
func TestHost(t *testing.T) {
	for _, c := range []struct{ s, want string }{
		{"B\u00fccher\u3002De", "xn--bcher-kva.de"},
		{"a", "a"},
		{"A", "a"},
		{"www.Example.COM", "www.example.com"},
		{"localhost", "localhost"},
		{"a-1.3com.127", "a-1.3com.127"},
		{"192.0.2.1", "192.0.2.1"},
		{"WWW.M\u00fcnchen.de", "www.xn--mnchen-3ya.de"},
		{"\u00fc", "xn--tda"},
		{"\u00fc.\u00fc", "xn--tda.xn--tda"},
		{"\u00dc.\u00fc", "xn--wca.xn--tda"},
		{"\u4f8b\u3048.\u30c6\u30b9\u30c8", "xn--r8jz45g.xn--zckzah"},
		{"\U0010ffff.a", "xn--dn32g.a"},
		{"\ufffd", "xn--zn7c"},
		{"XN--BCHER-KVA.De", "xn--bcher-kva.de"},
		{"xn--zzzzzzz9.de", "xn--zzzzzzz9.de"},
		{"xn---tda.de", "xn---tda.de"},
		// Each dot, between and at the end.
		{"a.", "a."},
		{"a.b.", "a.b."},
		{"a\u3002", "a."},
		{"a\uff0e", "a."},
		{"a\uff61", "a."},
		{"a\u3002b\uff61", "a.b."},
		{"a.b\u3002c\uff0ed\uff61e", "a.b.c.d.e"},
		{"a\uff61b\uff0ec\u3002d.e.", "a.b.c.d.e."},
		{"\u00fc\u3002\u00fc\uff0e\u00fc\uff61\u00fc.", "xn--tda.xn--tda.xn--tda.xn--tda."},
		{"B\u00fccher.De\u3002", "xn--bcher-kva.de."},
		// A dot is none of a label's points, so that nothing is written for it.
		{"B\u3002A", "b.a"},
		{"A-1\uff0eB", "a-1.b"},
		// What looks like a dot is none.
		{"a\u3001b", "xn--ab-o13a"},
		{"\u2024", "xn--pvg"},
		{"\u3003.\uff0d", "xn--s6j.xn--4g7c"},
	} {
		hosted(t, c.s, c.want, api.OK)
	}
}

// Promise 6.1: wrong inputs.
func TestHostWrong(t *testing.T) {
	for _, c := range []struct {
		s string
		e api.Errno
	}{
		// No points.
		{"\xff", api.ErrForm},
		{"a.\xff", api.ErrForm},
		{"\xff.a", api.ErrForm},
		{"a\x80.b", api.ErrForm},
		{"a\xc3", api.ErrForm},
		{"a.\xc0\xae.b", api.ErrForm},
		{"a\xe3\x80", api.ErrForm},
		{"a\xe3.\x80\x82", api.ErrForm},
		{"a\xed\xa0\x80", api.ErrForm},
		{"a\xf4\x90\x80\x80", api.ErrForm},
		// An empty label.
		{"", api.ErrName},
		{".", api.ErrName},
		{"\u3002", api.ErrName},
		{"\uff0e", api.ErrName},
		{"\uff61", api.ErrName},
		{"..", api.ErrName},
		{".\u3002", api.ErrName},
		{"\uff61\uff61\uff61", api.ErrName},
		{".a", api.ErrName},
		{"\uff0ea", api.ErrName},
		{".a.", api.ErrName},
		{"a..", api.ErrName},
		{"a\u3002.", api.ErrName},
		{"a.\uff61", api.ErrName},
		{"a..b", api.ErrName},
		{"a\u3002\u3002b", api.ErrName},
		{"\u00fc..\u00fc", api.ErrName},
		{"a.b..", api.ErrName},
		{"a...", api.ErrName},
		// A label that is none.
		{"a_b", api.ErrLabel},
		{"a.b_c", api.ErrLabel},
		{"_sip._tcp.example", api.ErrLabel},
		{"-a.b", api.ErrLabel},
		{"a-.b", api.ErrLabel},
		{"a.-b", api.ErrLabel},
		{"a.b-", api.ErrLabel},
		{"a.b-.", api.ErrLabel},
		{"-", api.ErrLabel},
		{"a b", api.ErrLabel},
		{" a", api.ErrLabel},
		{"a.b\n", api.ErrLabel},
		{"a\x00", api.ErrLabel},
		{"a.*", api.ErrLabel},
		{"\u00fc_.a", api.ErrLabel},
		{"a.-\u00fc", api.ErrLabel},
		{"a.\u00fc-.b", api.ErrLabel},
		{"\u00fc-\u3002b", api.ErrLabel},
		{"::1", api.ErrLabel},
		// No backslash stands for anything here.
		{`a\.b`, api.ErrLabel},
		{`a\046b`, api.ErrLabel},
		{`\097`, api.ErrLabel},
	} {
		hosted(t, c.s, "", c.e)
	}
}

// Promise 6.1: the order of the errors.
func TestHostOrder(t *testing.T) {
	for _, c := range []struct {
		s string
		e api.Errno
	}{
		// No points: ahead of all else, wherever they stand.
		{".\xff", api.ErrForm},
		{"\xff..", api.ErrForm},
		{"a..b.\xff", api.ErrForm},
		{"a_b.\xff", api.ErrForm},
		{long(64) + ".\xff", api.ErrForm},
		{row(4097, "\u00fc") + ".\xff", api.ErrForm},
		{row(200, "a.") + "\xff", api.ErrForm},
		{row(200, "a.") + ".\xff", api.ErrForm},
		// Label by label: the first one that is wrong.
		{"_..a", api.ErrLabel},
		{"_..", api.ErrLabel},
		{"._", api.ErrName},
		{"._.", api.ErrName},
		{"a.._", api.ErrName},
		{"a._..", api.ErrLabel},
		{"..." + long(64), api.ErrName},
		{long(64) + "...", api.ErrLabel},
		{row(4097, "\u00fc") + "._", api.ErrLong},
		{row(4097, "\u00fc") + "..", api.ErrLong},
		{"_." + row(4097, "\u00fc"), api.ErrLabel},
		{"." + row(4097, "\u00fc"), api.ErrName},
		{row(4095, "a") + "\U0010ffff..", api.ErrOver},
		{"a." + row(4095, "a") + "\U0010ffff._", api.ErrOver},
		{"_\u3002" + row(4095, "a") + "\U0010ffff", api.ErrLabel},
		{"\u3002\u3002" + row(4095, "a") + "\U0010ffff", api.ErrName},
		{row(4097, "\u00fc") + "." + row(4095, "a") + "\U0010ffff", api.ErrLong},
		// The size at last.
		{row(200, "a.") + ".", api.ErrName},
		{row(200, "a.") + ".a", api.ErrName},
		{row(200, "a.") + "_", api.ErrLabel},
		{row(200, "a.") + long(64), api.ErrLabel},
		{row(200, "a.") + row(4095, "a") + "\U0010ffff", api.ErrOver},
		{row(200, "a.") + "b", api.ErrLong},
		{row(200, "a.") + "\u00fc\uff61", api.ErrLong},
	} {
		hosted(t, c.s, "", c.e)
	}
}

// Promise 6.1: labels of 63 bytes, and sizes of 255.
func TestHostEdges(t *testing.T) {
	wide := row(57, "\u00fc")
	narrow := "xn--tda" + long(56)
	if len(narrow) != 63 {
		t.Fatal(narrow)
	}
	for _, c := range []struct {
		s, want string
		e       api.Errno
	}{
		{long(63), long(63), api.OK},
		{long(64), "", api.ErrLabel},
		{"b." + long(63) + ".", "b." + long(63) + ".", api.OK},
		{"b." + long(64) + ".", "", api.ErrLabel},
		{wide, narrow, api.OK},
		{wide + "\u00fc", "", api.ErrLabel},
		{"b\uff0e" + wide + "\uff0eb", "b." + narrow + ".b", api.OK},
		{long(100000), "", api.ErrLabel},
		// The dot at the end does not count.
		{full(254), full(254), api.OK},
		{full(254) + ".", full(254) + ".", api.OK},
		{full(255), full(255), api.OK},
		{full(255) + ".", full(255) + ".", api.OK},
		{full(255) + "\u3002", full(255) + ".", api.OK},
		{full(256), "", api.ErrLong},
		{full(256) + ".", "", api.ErrLong},
		{full(257), "", api.ErrLong},
		{row(127, "a."), row(127, "a."), api.OK},
		{row(126, "A.") + "a", row(126, "a.") + "a", api.OK},
		{row(127, "a\uff61"), row(127, "a."), api.OK},
		{row(126, "a.") + "ab", "", api.ErrLong},
		{row(127, "a.") + "a", "", api.ErrLong},
		{row(128, "a."), "", api.ErrLong},
		{row(128, "a\u3002"), "", api.ErrLong},
		{row(100000, "a."), "", api.ErrLong},
		// The size is that of what is written, be it less or more than what is asked.
		{row(3, wide+".") + long(61), row(3, narrow+".") + long(61), api.OK},
		{row(3, wide+".") + long(62), "", api.ErrLong},
		{row(3, wide+"\uff61") + row(55, "\u00fc"), row(3, narrow+".") + narrow[:61], api.OK},
		{row(3, wide+"\uff61") + row(56, "\u00fc"), "", api.ErrLong},
		{row(31, "\u00fc."), row(31, "xn--tda."), api.OK},
		{row(31, "\u00fc.") + "abcde", row(31, "xn--tda.") + "abcde", api.OK},
		{row(31, "\u00fc.") + "abcdef", "", api.ErrLong},
		{row(32, "\u00fc."), "", api.ErrLong},
		{row(80, "\u00fc."), "", api.ErrLong},
	} {
		hosted(t, c.s, c.want, c.e)
	}
}

// Promise 6.1: each point between two others; four of them are dots.
func TestHostEachPoint(t *testing.T) {
	for c := rune(0); c <= 0x10ffff; c++ {
		if !utf8.ValidRune(c) {
			continue
		}
		s := string(c)
		if !slices.Contains([]rune{0x2e, 0x3002, 0xff0e, 0xff61}, c) {
			one, e := label.ToASCII("a" + s + "B")
			if got, gotE := Host("a" + s + "B"); got != one || gotE != e {
				t.Errorf("point %x: %q, %v, want %q, %v", c, got, gotE, one, e)
			}
			continue
		}
		hosted(t, s, "", api.ErrName)
		hosted(t, s+"a", "", api.ErrName)
		hosted(t, "a"+s+s, "", api.ErrName)
		hosted(t, "a"+s+"B", "a.b", api.OK)
		hosted(t, "a"+s+"B"+s, "a.b.", api.OK)
		hosted(t, "\u00fc"+s+"\u00fc", "xn--tda.xn--tda", api.OK)
	}
}

// Promise 6.2.
func TestUnicode(t *testing.T) {
	for _, c := range []struct{ s, want string }{
		{"xn--bcher-kva.de", "b\u00fccher.de"},
		{"www.xn--mnchen-3ya.de.", "www.m\u00fcnchen.de."},
		{"XN--BCHER-KVA.De", "b\u00fccher.De"},
		{"Www.Xn--Tda.COM", "Www.\u00fc.COM"},
		{"xn--tda", "\u00fc"},
		{"xn--tda.xn--wca", "\u00fc.\u00dc"},
		{"xn--r8jz45g.xn--zckzah", "\u4f8b\u3048.\u30c6\u30b9\u30c8"},
		{"a", "a"},
		{"www.Example.com", "www.Example.com"},
		// Empty ones, and what is no name, stay.
		{"", ""},
		{".", "."},
		{"..", ".."},
		{"a.", "a."},
		{".a", ".a"},
		{"a..b", "a..b"},
		{".xn--tda.", ".\u00fc."},
		{"xn--tda..xn--tda", "\u00fc..\u00fc"},
		{"...xn--tda...", "...\u00fc..."},
		{"A_B.xn--tda", "A_B.\u00fc"},
		{"_sip._tcp.xn--tda", "_sip._tcp.\u00fc"},
		{"-.xn--tda.-", "-.\u00fc.-"},
		{"\xff.xn--tda.\x00", "\xff.\u00fc.\x00"},
		{"B\u00dcCHER.xn--tda", "B\u00dcCHER.\u00fc"},
		{"xn--.xn--tda", "xn--.\u00fc"},
		{"XN--Z.xn--tda", "XN--Z.\u00fc"},
		{"xn---tda.xn--tda", "xn---tda.\u00fc"},
		// A label that would be read as a dot stays.
		{"a.xn--r6j.b", "a.xn--r6j.b"},
		{"a.xn--5g7c", "a.xn--5g7c"},
		{"a.xn--a-93t", "a.xn--a-93t"},
		// Other dots cut nothing here, nor does a backslash keep one.
		{"xn--tda\u3002xn--tda", "xn--tda\u3002xn--tda"},
		{"a\uff0exn--tda", "a\uff0exn--tda"},
		{"xn--tda\uff61", "xn--tda\uff61"},
		{"a\u3002b.xn--tda", "a\u3002b.\u00fc"},
		{`a\.xn--tda`, "a\\.\u00fc"},
		// However long.
		{long(64) + ".xn--tda", long(64) + ".\u00fc"},
		{row(1000, "xn--tda."), row(1000, "\u00fc.")},
		{row(1000, "."), row(1000, ".")},
		{"xn--tda" + long(56) + ".a", row(57, "\u00fc") + ".a"},
		{"xn--tda" + long(57) + ".a", "xn--tda" + long(57) + ".a"},
	} {
		if got := Unicode(c.s); got != c.want {
			t.Errorf("Unicode(%q): %q, want %q", short(c.s), short(got), short(c.want))
		}
		if got := plainUnicode(c.s); got != c.want {
			t.Errorf("the plain way of %q: %q", short(c.s), short(got))
		}
	}
}

// check holds what both calls answer of a text against the plain ways, and against what follows.
func check(t *testing.T, s string) {
	t.Helper()
	if got, want := Unicode(s), plainUnicode(s); got != want {
		t.Errorf("Unicode(%q): %q, want %q", short(s), short(got), short(want))
	}
	want, wantE := plainHost(s)
	got, e := Host(s)
	if got != want || e != wantE {
		t.Errorf("Host(%q): %q, %v, want %q, %v", short(s), short(got), e, short(want), wantE)
	}
	if e == api.OK {
		follows(t, s, got)
	}
}

// follows holds what Host made of a text against promise 6.3.
func follows(t *testing.T, s, got string) {
	t.Helper()
	n, ends, e := domain.Parse(got)
	if e != api.OK || !domain.Host(n) {
		t.Errorf("%q of %q is no host's name: %q, %v", short(got), short(s), n, e)
	}
	last, _ := utf8.DecodeLastRuneInString(s)
	if ends != dots.MatchString(string(last)) {
		t.Errorf("%q of %q: its end", short(got), short(s))
	}
	if again, e := Host(got); again != got || e != api.OK {
		t.Errorf("%q of %q doesn't stay: %q, %v", short(got), short(s), short(again), e)
	}
	read := Unicode(got)
	if again, e := Host(read); again != got || e != api.OK {
		t.Errorf("%q of %q, read as %q: %q, %v", short(got), short(s), short(read), short(again), e)
	}
}

// Promises 6.1, 6.2 and 6.3: all short texts of parts at which something changes.
func TestAll(t *testing.T) {
	for _, s := range many(5, ".", "\u3002", "a", "Z", "-", "_", "\u00fc", "\xff") {
		check(t, s)
	}
	for _, s := range many(5, ".", "\uff0e", "\uff61", "xn--", "tda", "\u3048", "X") {
		check(t, s)
	}
	for _, s := range many(5, ".", "xn--r6j", "XN--TDA", "xn---tda", "xn--zzzzzzz9", "0") {
		check(t, s)
	}
}

// Promises 6.1 and 6.3: names of each count of labels about the edge, of labels that are written longer or shorter than they are asked.
func TestLengths(t *testing.T) {
	for _, p := range []string{"a.", "\u00fc\u3002", "B\u00fccher\uff61", row(57, "\u00fc") + ".", long(63) + ".", "xn--tda.", "\U0010ffff\uff0e", "example.", row(20, "\u4f8b") + "."} {
		most := 0
		for e := api.OK; e == api.OK; most++ {
			_, e = plainHost(p + row(most, p))
		}
		for n := range most + 2 {
			for _, q := range []string{"", "a", "\u00fc", long(20), row(30, "\u00fc"), "_", ".", "ab.", "xn--tda"} {
				check(t, row(n, p)+q)
			}
		}
	}
	for n := 194; n < 260; n++ {
		check(t, full(n))
		check(t, full(n)+".")
	}
}

// Promise 6.3: each label that Host takes, as it is read, for each far point.
func TestReadEachPoint(t *testing.T) {
	for c := rune(0x80); c <= 0x10ffff; c++ {
		if c > 0x3100 && c%61 != 0 && (c < 0xfe00 || 0x10100 < c) || !utf8.ValidRune(c) {
			continue
		}
		check(t, "A."+string(c)+"\u3002b"+string(c)+"-"+string(c))
	}
}

// What is asked often is answered alike, whatever was asked between.
func TestNothingIsKept(t *testing.T) {
	l := []string{"B\u00fccher\u3002De", "xn--bcher-kva.de.", "\xff", "", "a..b", "XN--TDA.Com", full(256)}
	var first []string
	for range 3 {
		var out []string
		for _, s := range l {
			got, e := Host(s)
			out = append(out, got, e.Error(), Unicode(s))
		}
		if first == nil {
			first = out
		}
		if !slices.Equal(first, out) {
			t.Errorf("%q, then %q", first, out)
		}
	}
}

// Promises 6.1, 6.2, 6.3 and P1, at any bytes.
func FuzzIdna(f *testing.F) {
	for _, s := range []string{"", ".", "a.", "a..b", "B\u00fccher\u3002De", "XN--BCHER-KVA.De.", "a\uff0eb\uff61", "xn---tda.xn--r6j", "a_b.\xff", "\u00fc-.a", full(255), full(256), row(128, "a.")} {
		f.Add(s)
	}
	f.Fuzz(func(t *testing.T, s string) {
		check(t, s)
		check(t, string([]rune(s)))
		check(t, strings.ReplaceAll(s, "a", ".xn--"))
	})
}
