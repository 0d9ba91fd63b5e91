package domain

import (
	"fmt"
	"regexp"
	"slices"
	"strconv"
	"strings"
	"testing"

	"wayfinder/api"
)

// signs are what a written name is of, its bytes taken as points of the same numbers.
var signs = regexp.MustCompile(`(?s)^(\\(25[0-5]|2[0-4][0-9]|[01][0-9][0-9]|[^0-9])|[^\\])`)

// hosts are the labels of hosts, but for how many bytes they may have.
var hosts = regexp.MustCompile(`^[0-9A-Za-z]([-0-9A-Za-z]*[0-9A-Za-z])?$`)

// wide is a text of a point for each byte.
func wide(s string) string {
	var out []rune
	for i := range len(s) {
		out = append(out, rune(s[i]))
	}
	return string(out)
}

// cutSigns is Parse's first half by another way: what stands between dots, as signs, and whether a backslash with nothing of its own ends it.
func cutSigns(s string) ([][]string, bool) {
	l := [][]string{nil}
	for s = wide(s); s != ""; {
		sign := signs.FindString(s)
		if sign == "" {
			return l, true
		}
		s = s[len(sign):]
		if sign == "." {
			l = append(l, nil)
			continue
		}
		l[len(l)-1] = append(l[len(l)-1], sign)
	}
	return l, false
}

// plainByte is the byte that a sign stands for.
func plainByte(sign string) byte {
	if len(sign) == 4 {
		n, _ := strconv.Atoi(sign[1:])
		return byte(n)
	}
	points := []rune(sign)
	return byte(points[len(points)-1])
}

// plainParse is Parse by another way: cut as a whole first, and looked at then.
func plainParse(s string) (api.Name, bool, api.Errno) {
	if s == "." {
		return nil, true, api.OK
	}
	l, broken := cutSigns(s)
	last := l[len(l)-1]
	ends := len(l) > 1 && len(last) == 0
	if ends || broken {
		l = l[:len(l)-1]
	}
	var n api.Name
	for _, signs := range l {
		if len(signs) == 0 {
			return nil, false, api.ErrName
		}
		if len(signs) > 63 {
			return nil, false, api.ErrLabel
		}
		var label []byte
		for _, sign := range signs {
			label = append(label, plainByte(sign))
		}
		n = append(n, string(label))
	}
	if broken {
		return nil, false, api.ErrForm
	}
	if len(strings.Join(n, "."))+2 > 255 {
		return nil, false, api.ErrLong
	}
	return n, ends, api.OK
}

// plainText is Text by another way: by bytes' ranges, and Go's own digits.
func plainText(n api.Name) string {
	if len(n) == 0 {
		return "."
	}
	out := ""
	for _, l := range n {
		for _, c := range []byte(l) {
			switch {
			case strings.IndexByte(`.\`, c) >= 0:
				out += `\` + string(rune(c))
			case c > 32 && c < 127:
				out += string(rune(c))
			default:
				out += fmt.Sprintf(`\%03d`, c)
			}
		}
		out += "."
	}
	return out
}

// plainFold is a text with small letters, byte by byte.
func plainFold(s string) string {
	out := []byte(s)
	for i, c := range out {
		if 'A' <= c && c <= 'Z' {
			out[i] = c + 32
		}
	}
	return string(out)
}

// plainCheck is Check by another way: by the texts of its labels together.
func plainCheck(n api.Name) api.Errno {
	if slices.ContainsFunc(n, func(l string) bool { return len(l) < 1 || len(l) > 63 }) {
		return api.ErrLabel
	}
	if len(strings.Join(n, ""))+len(n) > 254 {
		return api.ErrLong
	}
	return api.OK
}

// row is n times a text.
func row(n int, s string) string { return strings.Repeat(s, n) }

// long is a label of n bytes.
func long(n int) string { return row(n, "a") }

// full is a name of 254, 255 or any other size from 194 on.
func full(size int) api.Name {
	return api.Name{long(63), long(63), long(63), long(size - 194)}
}

// short is a text as a message has room for.
func short(s string) string { return s[:min(len(s), 80)] }

// one is a text of one byte.
func one(b int) string { return string([]byte{byte(b)}) }

// many are all texts of up to most of some parts.
func many(most int, parts ...string) []string {
	all := []string{""}
	last := all
	for range most {
		var next []string
		for _, s := range last {
			for _, p := range parts {
				next = append(next, s+p)
			}
		}
		all = append(all, next...)
		last = next
	}
	return all
}

// names are all names of up to most of some labels.
func names(most int, labels ...string) []api.Name {
	all := []api.Name{nil}
	last := all
	for range most {
		var next []api.Name
		for _, n := range last {
			for _, l := range labels {
				next = append(next, append(slices.Clone(n), l))
			}
		}
		all = append(all, next...)
		last = next
	}
	return all
}

// Promise 5.1.
func TestCheck(t *testing.T) {
	for i, c := range []struct {
		n    api.Name
		size int
		e    api.Errno
	}{
		{nil, 1, api.OK},
		{api.Name{}, 1, api.OK},
		{api.Name{"a"}, 3, api.OK},
		{api.Name{"www", "Example", "com"}, 17, api.OK},
		// Any bytes; what a byte is written with does not count.
		{api.Name{"."}, 3, api.OK},
		{api.Name{"\\", "\x00"}, 5, api.OK},
		{api.Name{"\xff\x80 ", "_-", "\n"}, 10, api.OK},
		{api.Name{"\u00fc"}, 4, api.OK},
		{api.Name{row(63, "\x00")}, 65, api.OK},
		// Labels of none, 1, 63 and 64 bytes.
		{api.Name{""}, 2, api.ErrLabel},
		{api.Name{"", ""}, 3, api.ErrLabel},
		{api.Name{"", "a"}, 4, api.ErrLabel},
		{api.Name{"a", ""}, 4, api.ErrLabel},
		{api.Name{"a", "", "b"}, 6, api.ErrLabel},
		{api.Name{long(62)}, 64, api.OK},
		{api.Name{long(63)}, 65, api.OK},
		{api.Name{long(64)}, 66, api.ErrLabel},
		{api.Name{"a", long(64)}, 68, api.ErrLabel},
		{api.Name{long(64), "a"}, 68, api.ErrLabel},
		{api.Name{long(100000)}, 100002, api.ErrLabel},
		// Sizes of 255 and 256.
		{full(254), 254, api.OK},
		{full(255), 255, api.OK},
		{full(256), 256, api.ErrLong},
		{full(257), 257, api.ErrLong},
		{slices.Repeat(api.Name{"a"}, 126), 253, api.OK},
		{slices.Repeat(api.Name{"a"}, 127), 255, api.OK},
		{slices.Repeat(api.Name{"a"}, 128), 257, api.ErrLong},
		{append(slices.Repeat(api.Name{"a"}, 126), "ab"), 256, api.ErrLong},
		{slices.Repeat(api.Name{"a"}, 100000), 200001, api.ErrLong},
		// A bad label comes ahead of the size, wherever it stands.
		{append(slices.Repeat(api.Name{"a"}, 200), ""), 402, api.ErrLabel},
		{append(slices.Repeat(api.Name{"a"}, 200), long(64)), 466, api.ErrLabel},
		{append(api.Name{""}, slices.Repeat(api.Name{"a"}, 200)...), 402, api.ErrLabel},
		{slices.Repeat(api.Name{""}, 300), 301, api.ErrLabel},
	} {
		if got := Check(c.n); got != c.e {
			t.Errorf("row %d: Check: %v, want %v", i, got, c.e)
		}
		if got := plainCheck(c.n); got != c.e {
			t.Errorf("row %d: the plain way: %v", i, got)
		}
		if got := Size(c.n); got != c.size {
			t.Errorf("row %d: Size: %d, want %d", i, got, c.size)
		}
	}
}

// Promise 5.1, and example 1.
func TestText(t *testing.T) {
	for _, c := range []struct {
		n           api.Name
		text, plain string
	}{
		{nil, ".", "."},
		{api.Name{}, ".", "."},
		{api.Name{"a"}, "a.", "a"},
		{api.Name{"www", "Example", "com"}, "www.Example.com.", "www.Example.com"},
		{api.Name{"a.b", "c"}, `a\.b.c.`, `a\.b.c`},
		{api.Name{"."}, `\..`, `\.`},
		{api.Name{"a."}, `a\..`, `a\.`},
		{api.Name{"..", "."}, `\.\..\..`, `\.\..\.`},
		{api.Name{`\`}, `\\.`, `\\`},
		{api.Name{`a\046`}, `a\\046.`, `a\\046`},
		{api.Name{"a b", "c"}, `a\032b.c.`, `a\032b.c`},
		{api.Name{"\x00"}, `\000.`, `\000`},
		{api.Name{"\x09\x1f\x20!"}, `\009\031\032!.`, `\009\031\032!`},
		{api.Name{"~\x7f\x80"}, `~\127\128.`, `~\127\128`},
		{api.Name{"\xff\xc8\x63"}, `\255\200c.`, `\255\200c`},
		{api.Name{"\u00fc"}, `\195\188.`, `\195\188`},
		{api.Name{"\"$();@*_-"}, "\"$();@*_-.", "\"$();@*_-"},
		{api.Name{"\x001"}, `\0001.`, `\0001`},
		// Labels that may not be.
		{api.Name{""}, ".", ""},
		{api.Name{"", ""}, "..", "."},
		{api.Name{"a", ""}, "a..", "a."},
		{api.Name{"", "a"}, ".a.", ".a"},
		{api.Name{"a", "", "b"}, "a..b.", "a..b"},
		{api.Name{long(64)}, long(64) + ".", long(64)},
		{slices.Repeat(api.Name{"."}, 300), row(300, `\..`), row(299, `\..`) + `\.`},
		{api.Name{row(1000, "\xff")}, row(1000, `\255`) + ".", row(1000, `\255`)},
	} {
		if got := Text(c.n); got != c.text {
			t.Errorf("Text(%.40q): %q, want %q", c.n, short(got), short(c.text))
		}
		if got := plainText(c.n); got != c.text {
			t.Errorf("the plain way of %.40q: %q", c.n, short(got))
		}
		if got := Plain(c.n); got != c.plain {
			t.Errorf("Plain(%.40q): %q, want %q", c.n, short(got), short(c.plain))
		}
	}
}

// Promise 5.1: each byte, alone and between others.
func TestTextBytes(t *testing.T) {
	for b := range 256 {
		want := one(b)
		switch {
		case b == '.' || b == '\\':
			want = `\` + want
		case b < 33 || b > 126:
			want = fmt.Sprintf(`\%d%d%d`, b/100, b/10%10, b%10)
		}
		for _, c := range []struct {
			n    api.Name
			want string
		}{
			{api.Name{one(b)}, want},
			{api.Name{"1" + one(b) + "2"}, "1" + want + "2"},
			{api.Name{"a", one(b), one(b) + "."}, "a." + want + "." + want + `\.`},
		} {
			if got := Text(c.n); got != c.want+"." {
				t.Errorf("Text(%q): %q, want %q", c.n, got, c.want+".")
			}
			if got := Plain(c.n); got != c.want {
				t.Errorf("Plain(%q): %q, want %q", c.n, got, c.want)
			}
		}
	}
}

// parsed holds what Parse answers against what is wanted.
func parsed(t *testing.T, s string, want api.Name, wantEnds bool, wantE api.Errno) {
	t.Helper()
	n, ends, e := Parse(s)
	if !slices.Equal(n, want) || ends != wantEnds || e != wantE {
		t.Errorf("Parse(%q): %.80q, %v, %v, want %.80q, %v, %v", short(s), n, ends, e, want, wantEnds, wantE)
	}
	n, ends, e = plainParse(s)
	if !slices.Equal(n, want) || ends != wantEnds || e != wantE {
		t.Errorf("the plain way of %q: %.80q, %v, %v", short(s), n, ends, e)
	}
}

// Promise 5.2, and example 1.
func TestParse(t *testing.T) {
	for _, c := range []struct {
		s    string
		n    api.Name
		ends bool
	}{
		{`a\.b.c`, api.Name{"a.b", "c"}, false},
		{".", nil, true},
		{"a", api.Name{"a"}, false},
		{"a.", api.Name{"a"}, true},
		{"a.b", api.Name{"a", "b"}, false},
		{"www.Example.com", api.Name{"www", "Example", "com"}, false},
		{"www.Example.com.", api.Name{"www", "Example", "com"}, true},
		{"192.0.2.1", api.Name{"192", "0", "2", "1"}, false},
		// A dot with a backslash ahead is none that ends a label.
		{`\.`, api.Name{"."}, false},
		{`\..`, api.Name{"."}, true},
		{`a\.`, api.Name{"a."}, false},
		{`\.\.`, api.Name{".."}, false},
		{`\..\.`, api.Name{".", "."}, false},
		{`\\.`, api.Name{`\`}, true},
		{`\\\.`, api.Name{`\.`}, false},
		{`a\046b.`, api.Name{"a.b"}, true},
		{`\046`, api.Name{"."}, false},
		{`\092.a`, api.Name{`\`, "a"}, false},
		{`\092046`, api.Name{`\046`}, false},
		// Three digits, and what stands behind them.
		{`\000`, api.Name{"\x00"}, false},
		{`\255`, api.Name{"\xff"}, false},
		{`\2551`, api.Name{"\xff1"}, false},
		{`\0655`, api.Name{"A5"}, false},
		{`\065\066`, api.Name{"AB"}, false},
		{`\\065`, api.Name{`\065`}, false},
		{`\048`, api.Name{"0"}, false},
		// Another byte.
		{`\a`, api.Name{"a"}, false},
		{`\A\-\_`, api.Name{"A-_"}, false},
		{`\ `, api.Name{" "}, false},
		{`\a123`, api.Name{"a123"}, false},
		{"\\\x00\\\xff\\\n", api.Name{"\x00\xff\n"}, false},
		{`\/\:`, api.Name{"/:"}, false},
		{"\\\u00fc", api.Name{"\u00fc"}, false},
		{"\\\u0661", api.Name{"\u0661"}, false},
		// Bytes that Text would not leave as they are, and what is no dot.
		{"a b\t", api.Name{"a b\t"}, false},
		{"\x00.\xff", api.Name{"\x00", "\xff"}, false},
		{"b\u00fccher.\u4f8b", api.Name{"b\u00fccher", "\u4f8b"}, false},
		{"a\u3002b\uff0ec\uff61", api.Name{"a\u3002b\uff0ec\uff61"}, false},
		{" ", api.Name{" "}, false},
		{"*._-", api.Name{"*", "_-"}, false},
		// 63 bytes of a label, and a size of 255.
		{long(63), api.Name{long(63)}, false},
		{row(63, `\000`), api.Name{row(63, "\x00")}, false},
		{row(63, `\.`) + ".", api.Name{row(63, ".")}, true},
		{"b." + row(63, `\A`) + ".b", api.Name{"b", row(63, "A"), "b"}, false},
		{row(3, long(63)+".") + long(61), full(255), false},
		{row(3, long(63)+".") + long(61) + ".", full(255), true},
		{row(127, "a."), slices.Repeat(api.Name{"a"}, 127), true},
		{row(126, "a.") + "a", slices.Repeat(api.Name{"a"}, 127), false},
		{row(127, `\097.`), slices.Repeat(api.Name{"a"}, 127), true},
	} {
		parsed(t, c.s, c.n, c.ends, api.OK)
	}
}

// Promise 5.2: wrong inputs, and which error comes first.
func TestParseWrong(t *testing.T) {
	for _, c := range []struct {
		s string
		e api.Errno
	}{
		// A backslash with neither behind it.
		{`\`, api.ErrForm},
		{`a\`, api.ErrForm},
		{`a.\`, api.ErrForm},
		{`\\\`, api.ErrForm},
		{`\1`, api.ErrForm},
		{`\12`, api.ErrForm},
		{`\12.`, api.ErrForm},
		{`\1.2`, api.ErrForm},
		{`\1a2`, api.ErrForm},
		{`\12a`, api.ErrForm},
		{`\12\3`, api.ErrForm},
		{`\0 1`, api.ErrForm},
		{`\0-1`, api.ErrForm},
		{`\00` + "\u0661", api.ErrForm},
		{`\256`, api.ErrForm},
		{`\260`, api.ErrForm},
		{`\300`, api.ErrForm},
		{`\999`, api.ErrForm},
		{`a\256b.c`, api.ErrForm},
		{`\9999`, api.ErrForm},
		{`a.b\`, api.ErrForm},
		// A label of no bytes.
		{"", api.ErrName},
		{"..", api.ErrName},
		{"...", api.ErrName},
		{".a", api.ErrName},
		{".a.", api.ErrName},
		{"a..", api.ErrName},
		{"a..b", api.ErrName},
		{`a\...`, api.ErrName},
		{`.\.`, api.ErrName},
		// One of more than 63.
		{long(64), api.ErrLabel},
		{long(64) + ".", api.ErrLabel},
		{long(64) + ".b", api.ErrLabel},
		{"b." + long(64), api.ErrLabel},
		{row(64, `\000`), api.ErrLabel},
		{row(64, `\.`), api.ErrLabel},
		{long(100000), api.ErrLabel},
		// A size above 255.
		{row(3, long(63)+".") + long(62), api.ErrLong},
		{row(3, long(63)+".") + long(62) + ".", api.ErrLong},
		{row(4, long(63)+"."), api.ErrLong},
		{row(128, "a."), api.ErrLong},
		{row(127, "a.") + "a", api.ErrLong},
		{row(126, "a.") + "ab", api.ErrLong},
		{row(126, "a.") + "ab.", api.ErrLong},
		{row(100000, "a."), api.ErrLong},
		// From the left on, the first one.
		{`\.a..\`, api.ErrName},
		{`.\`, api.ErrName},
		{`..\256`, api.ErrName},
		{`a\..` + `.\1`, api.ErrName},
		{`\..\`, api.ErrForm},
		{`\256..`, api.ErrForm},
		{`a.\1..` + long(64), api.ErrForm},
		{long(64) + `..\`, api.ErrLabel},
		{long(64) + `.\`, api.ErrLabel},
		{"a.." + long(64), api.ErrName},
		{"." + long(64), api.ErrName},
		{long(63) + ".." + long(64), api.ErrName},
		// A label that is too long is so at its end alone.
		{long(64) + `\`, api.ErrForm},
		{long(64) + `\256.`, api.ErrForm},
		{long(100000) + `\`, api.ErrForm},
		{long(100000) + `.\`, api.ErrLabel},
		// The size at last.
		{row(200, "a.") + ".", api.ErrName},
		{row(200, "a.") + long(64), api.ErrLabel},
		{row(200, "a.") + `\`, api.ErrForm},
		{row(200, "a.") + `\300`, api.ErrForm},
		{row(200, "a.") + `b\.`, api.ErrLong},
	} {
		parsed(t, c.s, nil, false, c.e)
	}
}

// Promise 5.2: each byte as it is and behind a backslash, and all three digits.
func TestParseBytes(t *testing.T) {
	for b := range 256 {
		s := one(b)
		if b != '.' && b != '\\' {
			parsed(t, s, api.Name{s}, false, api.OK)
			parsed(t, "a."+s+"b.", api.Name{"a", s + "b"}, true, api.OK)
		}
		if '0' <= b && b <= '9' {
			parsed(t, `\`+s, nil, false, api.ErrForm)
			parsed(t, `a.\`+s+"b.", nil, false, api.ErrForm)
			continue
		}
		parsed(t, `\`+s, api.Name{s}, false, api.OK)
		parsed(t, `a.\`+s+"b.", api.Name{"a", s + "b"}, true, api.OK)
		for _, s := range []string{`\` + "1" + s, `\` + "12" + s, `\` + "1" + s + "2", `\` + "0" + s + "00"} {
			parsed(t, s, nil, false, api.ErrForm)
		}
	}
	for n := range 1000 {
		s := fmt.Sprintf(`\%03d`, n)
		if n > 255 {
			parsed(t, s, nil, false, api.ErrForm)
			parsed(t, "a"+s+".b", nil, false, api.ErrForm)
			continue
		}
		parsed(t, s, api.Name{one(n)}, false, api.OK)
		parsed(t, "a"+s+"7.b.", api.Name{"a" + one(n) + "7", "b"}, true, api.OK)
	}
}

// Promise 5.2: all short texts.
func TestParseAll(t *testing.T) {
	for _, s := range many(6, ".", `\`, "a", "0", "2", "9") {
		n, ends, e := plainParse(s)
		parsed(t, s, n, ends, e)
	}
	for _, s := range many(5, ".", `\`, `\046`, `\25`, "6", long(62), row(63, `\000`)) {
		n, ends, e := plainParse(s)
		parsed(t, s, n, ends, e)
	}
}

// Promise 5.3.
func TestSame(t *testing.T) {
	for _, c := range []struct {
		a, b        api.Name
		same, under bool
	}{
		{nil, nil, true, true},
		{nil, api.Name{}, true, true},
		{api.Name{}, nil, true, true},
		{api.Name{"a"}, nil, false, true},
		{nil, api.Name{"a"}, false, false},
		{api.Name{"www", "Example", "com"}, api.Name{"WWW", "example", "COM"}, true, true},
		{api.Name{"www", "EXAMPLE", "com"}, api.Name{"example", "COM"}, false, true},
		{api.Name{"www", "example", "com"}, api.Name{"com"}, false, true},
		{api.Name{"www", "example", "com"}, nil, false, true},
		{api.Name{"com"}, api.Name{"example", "com"}, false, false},
		{api.Name{"example", "com"}, api.Name{"www", "example", "com"}, false, false},
		{api.Name{"example", "com", "www"}, api.Name{"example", "com"}, false, false},
		{api.Name{"www", "example", "com"}, api.Name{"www", "example"}, false, false},
		{api.Name{"www", "example", "org"}, api.Name{"example", "com"}, false, false},
		{api.Name{"www", "sample", "com"}, api.Name{"example", "com"}, false, false},
		{api.Name{"a"}, api.Name{"b"}, false, false},
		{api.Name{"a"}, api.Name{"ab"}, false, false},
		{api.Name{"ab"}, api.Name{"b"}, false, false},
		{api.Name{"myexample", "com"}, api.Name{"example", "com"}, false, false},
		// Labels, not what is written.
		{api.Name{"a.b"}, api.Name{"a", "b"}, false, false},
		{api.Name{"a", "b"}, api.Name{"a.b"}, false, false},
		{api.Name{"a.b"}, api.Name{"b"}, false, false},
		{api.Name{"ab", "c"}, api.Name{"a", "bc"}, false, false},
		{api.Name{"a", ""}, api.Name{"a"}, false, false},
		{api.Name{"", "a"}, api.Name{"a"}, false, true},
		{api.Name{""}, nil, false, true},
		{api.Name{""}, api.Name{""}, true, true},
		{api.Name{"", ""}, api.Name{""}, false, true},
		{api.Name{`\097`}, api.Name{"a"}, false, false},
		// Only A to Z are folded.
		{api.Name{"\xc4"}, api.Name{"\xe4"}, false, false},
		{api.Name{"\u00dc"}, api.Name{"\u00fc"}, false, false},
		{api.Name{"k"}, api.Name{"\u212a"}, false, false},
		{api.Name{"["}, api.Name{"{"}, false, false},
		{api.Name{"@"}, api.Name{"`"}, false, false},
		{api.Name{"\xff"}, api.Name{"\xfe"}, false, false},
		// Names that may not be.
		{api.Name{row(500, "A")}, api.Name{row(500, "a")}, true, true},
		{slices.Repeat(api.Name{"A"}, 500), slices.Repeat(api.Name{"a"}, 500), true, true},
		{slices.Repeat(api.Name{"A"}, 500), slices.Repeat(api.Name{"a"}, 499), false, true},
	} {
		if got := Same(c.a, c.b); got != c.same {
			t.Errorf("Same(%.80q, %.80q): %v", c.a, c.b, got)
		}
		if got := Same(c.b, c.a); got != c.same {
			t.Errorf("Same(%.80q, %.80q): %v", c.b, c.a, got)
		}
		if got := Under(c.a, c.b); got != c.under {
			t.Errorf("Under(%.80q, %.80q): %v", c.a, c.b, got)
		}
	}
}

// Promise 5.3: all short names of some labels.
func TestSameAll(t *testing.T) {
	all := names(3, "a", "A", "b", "", "ab")
	for _, a := range all {
		for _, b := range all {
			x, y := Lower(a), Lower(b)
			if got := Same(a, b); got != slices.Equal(x, y) {
				t.Errorf("Same(%q, %q): %v", a, b, got)
			}
			want := len(y) <= len(x) && slices.Equal(x[max(len(x)-len(y), 0):], y)
			if got := Under(a, b); got != want {
				t.Errorf("Under(%q, %q): %v", a, b, got)
			}
		}
	}
}

// Promise 5.3.
func TestCat(t *testing.T) {
	for i, c := range []struct {
		a, b, want api.Name
		e          api.Errno
	}{
		{nil, nil, nil, api.OK},
		{api.Name{"www"}, nil, api.Name{"www"}, api.OK},
		{nil, api.Name{"com"}, api.Name{"com"}, api.OK},
		{api.Name{"www"}, api.Name{"Example", "com"}, api.Name{"www", "Example", "com"}, api.OK},
		{api.Name{"a", "b"}, api.Name{"b", "A"}, api.Name{"a", "b", "b", "A"}, api.OK},
		{api.Name{"."}, api.Name{"\x00"}, api.Name{".", "\x00"}, api.OK},
		{full(255)[:3], full(255)[3:], full(255), api.OK},
		{full(255), nil, full(255), api.OK},
		{full(254), nil, full(254), api.OK},
		{full(255), api.Name{"a"}, nil, api.ErrLong},
		{full(254), api.Name{"a"}, nil, api.ErrLong},
		{full(253), api.Name{"a"}, append(full(253), "a"), api.OK},
		{api.Name{"a"}, full(254), nil, api.ErrLong},
		{full(256), nil, nil, api.ErrLong},
		{nil, full(256), nil, api.ErrLong},
		{api.Name{long(63), long(63)}, api.Name{long(63), long(63)}, nil, api.ErrLong},
		{api.Name{""}, nil, nil, api.ErrLabel},
		{nil, api.Name{""}, nil, api.ErrLabel},
		{api.Name{"a", ""}, api.Name{"b"}, nil, api.ErrLabel},
		{api.Name{"a"}, api.Name{"b", ""}, nil, api.ErrLabel},
		{api.Name{long(64)}, api.Name{"b"}, nil, api.ErrLabel},
		{api.Name{"a"}, api.Name{long(64)}, nil, api.ErrLabel},
		{full(256), api.Name{""}, nil, api.ErrLabel},
		{full(256), api.Name{long(64)}, nil, api.ErrLabel},
		{full(255), full(255), nil, api.ErrLong},
	} {
		got, e := Cat(c.a, c.b)
		if !slices.Equal(got, c.want) || e != c.e {
			t.Errorf("row %d: %.80q, %v, want %.80q, %v", i, got, e, c.want, c.e)
		}
	}
}

// Promise 5.3.
func TestLower(t *testing.T) {
	for _, c := range []struct{ n, want api.Name }{
		{nil, nil},
		{api.Name{}, nil},
		{api.Name{"www", "example"}, api.Name{"www", "example"}},
		{api.Name{"WwW", "EXAMPLE", "Com"}, api.Name{"www", "example", "com"}},
		{api.Name{"A.B", "\\C"}, api.Name{"a.b", "\\c"}},
		{api.Name{"@AZ[`az{"}, api.Name{"@az[`az{"}},
		{api.Name{"\xc4\u00dc\u212a"}, api.Name{"\xc4\u00dc\u212a"}},
		{api.Name{"", "A", ""}, api.Name{"", "a", ""}},
		{api.Name{row(500, "A")}, api.Name{row(500, "a")}},
	} {
		if got := Lower(c.n); !slices.Equal(got, c.want) {
			t.Errorf("Lower(%.80q): %.80q, want %.80q", c.n, got, c.want)
		}
	}
	for b := range 256 {
		if got := Lower(api.Name{"a", one(b)}); !slices.Equal(got, api.Name{"a", plainFold(one(b))}) {
			t.Errorf("Lower of byte %d: %q", b, got)
		}
	}
}

// Promise 5.3.
func TestHost(t *testing.T) {
	for i, c := range []struct {
		n    api.Name
		want bool
	}{
		{nil, false},
		{api.Name{}, false},
		{api.Name{"a"}, true},
		{api.Name{"a", "b-1"}, true},
		{api.Name{"WWW", "Example", "COM"}, true},
		{api.Name{"3com", "127", "xn--bcher-kva"}, true},
		{api.Name{"_sip"}, false},
		{api.Name{"_sip", "_tcp", "example"}, false},
		{api.Name{"www", "_tcp"}, false},
		{api.Name{"-a"}, false},
		{api.Name{"a-", "b"}, false},
		{api.Name{"a", "-"}, false},
		{api.Name{"a.b"}, false},
		{api.Name{"a b"}, false},
		{api.Name{"*", "example"}, false},
		{api.Name{"b\u00fccher"}, false},
		{api.Name{"a", "\x00"}, false},
		{api.Name{""}, false},
		{api.Name{"", "a"}, false},
		{api.Name{"a", ""}, false},
		{api.Name{"a", "", "b"}, false},
		{api.Name{long(63)}, true},
		{api.Name{long(64)}, false},
		{api.Name{"a", long(64)}, false},
		{full(255), true},
		{full(256), false},
		{slices.Repeat(api.Name{"a"}, 127), true},
		{slices.Repeat(api.Name{"a"}, 128), false},
		{append(slices.Repeat(api.Name{"a"}, 126), "_"), false},
	} {
		if got := Host(c.n); got != c.want {
			t.Errorf("row %d: Host(%.80q): %v", i, c.n, got)
		}
	}
	for b := range 256 {
		s := one(b)
		for _, l := range []string{s, "a" + s, s + "a", "a" + s + "a"} {
			want := hosts.MatchString(l)
			for _, n := range []api.Name{{l}, {l, "a"}, {"a", l}, {"a", l, "b"}} {
				if got := Host(n); got != want {
					t.Errorf("Host(%q): %v", n, got)
				}
			}
		}
	}
}

// What is handed in is not written into, nor what lies behind it, and what is handed out is new memory.
func TestNewMemory(t *testing.T) {
	room := api.Name{"WWW", "Example", "com", "x", "y"}
	a, b := room[:2], api.Name{"Org", "z"}[:1]
	n, _ := Cat(a, b)
	low := Lower(a)
	alone, _ := Cat(a, nil)
	below, _ := Cat(nil, a)
	for _, got := range []api.Name{n, low, alone, below} {
		got[0] = "changed"
		_ = append(got[:1], "changed", "changed", "changed")
	}
	if !slices.Equal(room, api.Name{"WWW", "Example", "com", "x", "y"}) || !slices.Equal(b[:2], api.Name{"Org", "z"}) {
		t.Errorf("%q, %q", room, b[:2])
	}
	p, _, _ := Parse("a.b")
	p[0] = "changed"
	if q, _, _ := Parse("a.b"); !slices.Equal(q, api.Name{"a", "b"}) {
		t.Errorf("%q", q)
	}
}

// undone holds promise 5.4 of a name: that it is read as it was written.
func undone(t *testing.T, n api.Name) {
	t.Helper()
	got, ends, e := Parse(Text(n))
	if !slices.Equal(got, n) || !ends || e != api.OK {
		t.Errorf("%q written %q: %q, %v, %v", n, Text(n), got, ends, e)
	}
	got, ends, e = Parse(Plain(n))
	if !slices.Equal(got, n) || ends != (len(n) == 0) || e != api.OK {
		t.Errorf("%q written %q: %q, %v, %v", n, Plain(n), got, ends, e)
	}
}

// Promise 5.4.
func TestReadAsWritten(t *testing.T) {
	for _, n := range names(4, "a", ".", `\`, "\x00", "0", `\046.`, "\xff1", "A b") {
		undone(t, n)
	}
	for b := range 256 {
		undone(t, api.Name{one(b)})
		undone(t, api.Name{row(63, one(b)), one(b) + "1"})
		for c := range 256 {
			undone(t, api.Name{one(b) + one(c), one(c) + "." + one(b)})
		}
	}
	for _, n := range []api.Name{full(254), full(255), slices.Repeat(api.Name{"."}, 127), slices.Repeat(api.Name{"\xff"}, 127)} {
		undone(t, n)
	}
}

// Promise 5.4: what is read is a name that may be, and one that is written and read is the same.
func TestReadMayBe(t *testing.T) {
	for _, s := range many(5, ".", `\`, "a", "\x00", "046", long(62)) {
		n, _, e := Parse(s)
		if e != api.OK {
			continue
		}
		if got := Check(n); got != api.OK {
			t.Errorf("%q: %q: %v", short(s), n, got)
		}
		undone(t, n)
	}
}

// P1: whatever the arguments, every call ends, and beside an error nothing else is told.
func FuzzDomain(f *testing.F) {
	for _, s := range []string{"", ".", "a.b", `a\.b.c.`, `\000.\255`, `\256`, `a\`, "..", "a..b", row(64, "a") + ".b", row(128, "a.")} {
		f.Add(s, "Www\x00Example\x00\x00.", "eXample\x00.")
		f.Add(s, s, "\x00")
	}
	f.Fuzz(func(t *testing.T, s, x, y string) {
		n, ends, e := plainParse(s)
		parsed(t, s, n, ends, e)
		if e == api.OK {
			undone(t, n)
		}
		a, b := api.Name(strings.Split(x, "\x00")), api.Name(strings.Split(y, "\x00"))
		fuzzed(t, a)
		fuzzed(t, b)
		if got := Same(a, b); got != slices.Equal(Lower(a), Lower(b)) {
			t.Errorf("Same(%q, %q): %v", a, b, got)
		}
		both := slices.Concat(a, b)
		got, e := Cat(a, b)
		if e != plainCheck(both) || e == api.OK && !slices.Equal(got, both) || e != api.OK && len(got) > 0 {
			t.Errorf("Cat(%q, %q): %q, %v", a, b, got, e)
		}
		if !Under(both, b) || !Under(Lower(both), b) || Under(b, both) {
			t.Errorf("%q, %q", both, b)
		}
	})
}

// fuzzed holds what is asked of one name against the plain ways.
func fuzzed(t *testing.T, n api.Name) {
	t.Helper()
	if got := Check(n); got != plainCheck(n) {
		t.Errorf("Check(%q): %v", n, got)
	}
	if got, want := Size(n), len(strings.Join(n, "."))+2; got != want {
		t.Errorf("Size(%q): %d, want %d", n, got, want)
	}
	if got := Text(n); got != plainText(n) || got != Plain(n)+"." {
		t.Errorf("Text(%q): %q, Plain: %q", n, got, Plain(n))
	}
	if Check(n) == api.OK {
		undone(t, n)
	}
	for i, l := range Lower(n) {
		if l != plainFold(n[i]) {
			t.Errorf("Lower(%q), label %d: %q", n, i, l)
		}
	}
	bad := slices.ContainsFunc(n, func(l string) bool { return !hosts.MatchString(l) })
	if got := Host(n); got != (!bad && plainCheck(n) == api.OK) {
		t.Errorf("Host(%q): %v", n, got)
	}
}
