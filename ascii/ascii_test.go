package ascii

import (
	"math"
	"math/big"
	"slices"
	"strings"
	"testing"

	"wayfinder/api"
)

// texts are all texts of up to most bytes of an alphabet.
func texts(alphabet string, most int) []string {
	all := []string{""}
	last := all
	for range most {
		var next []string
		for _, s := range last {
			for i := range len(alphabet) {
				next = append(next, s+alphabet[i:i+1])
			}
		}
		all = append(all, next...)
		last = next
	}
	return all
}

// Promise 1.1.
func TestLower(t *testing.T) {
	for _, c := range []struct{ s, want string }{
		{"", ""},
		{"abc", "abc"},
		{"ABCXYZ", "abcxyz"},
		{"wWw.Example-09", "www.example-09"},
		{"@[`{", "@[`{"},
		{"\x00A\xff\x80Z\n", "\x00a\xff\x80z\n"},
		{"\u00c4\u0130\u212aK", "\u00c4\u0130\u212ak"},
	} {
		if got := Lower(c.s); got != c.want {
			t.Errorf("Lower(%q): %q, want %q", c.s, got, c.want)
		}
	}
	const great, little = "ABCDEFGHIJKLMNOPQRSTUVWXYZ", "abcdefghijklmnopqrstuvwxyz"
	for b := range 256 {
		s := string([]byte{byte(b)})
		want := s
		if i := strings.Index(great, s); i >= 0 {
			want = little[i : i+1]
		}
		if got := Lower(s); got != want {
			t.Errorf("Lower(%q): %q, want %q", s, got, want)
		}
	}
}

// Promise 1.1.
func TestSame(t *testing.T) {
	for _, c := range []struct {
		a, b string
		want bool
	}{
		{"", "", true},
		{"", "a", false},
		{"a", "", false},
		{"abc", "ABC", true},
		{"aBc", "AbC", true},
		{"abc", "abd", false},
		{"abc", "ab", false},
		{"ab", "abc", false},
		{"abc", "bc", false},
		{"a\x00", "a", false},
		{"[", "{", false},
		{"@", "`", false},
		{"\xc4", "\xe4", false},
		{"k", "\u212a", false},
		{"s", "\u017f", false},
		{"\xff", "\xfe", false},
		{"\xff", "\ufffd", false},
	} {
		if got := Same(c.a, c.b); got != c.want {
			t.Errorf("Same(%q, %q): %v", c.a, c.b, got)
		}
	}
	letter := func(b int) bool { return 'a' <= b && b <= 'z' }
	for a := range 256 {
		for b := range 256 {
			want := a == b || a == b+32 && letter(a) || b == a+32 && letter(b)
			if got := Same(string([]byte{byte(a)}), string([]byte{byte(b)})); got != want {
				t.Errorf("Same of bytes %d, %d: %v", a, b, got)
			}
		}
	}
}

// Promise 1.1, and example 1.
func TestFields(t *testing.T) {
	for _, c := range []struct {
		s    string
		want []string
	}{
		{"", nil},
		{" ", nil},
		{"\t \t", nil},
		{"\tab  c", []string{"ab", "c"}},
		{"a", []string{"a"}},
		{"a b", []string{"a", "b"}},
		{" a\tb  c \t", []string{"a", "b", "c"}},
		{"b a b", []string{"b", "a", "b"}},
		{"a\nb\rc\vd\fe\x00f", []string{"a\nb\rc\vd\fe\x00f"}},
		{"a\u00a0b\u2003c\u0085d", []string{"a\u00a0b\u2003c\u0085d"}},
		{"\xe2 \xff\t\x80", []string{"\xe2", "\xff", "\x80"}},
	} {
		if got := Fields(c.s); !slices.Equal(got, c.want) {
			t.Errorf("Fields(%q): %q, want %q", c.s, got, c.want)
		}
	}
	for b := range 256 {
		want := []string{"x" + string([]byte{byte(b)}) + "y"}
		if b == 32 || b == 9 {
			want = []string{"x", "y"}
		}
		if got := Fields(between(b)); !slices.Equal(got, want) {
			t.Errorf("Fields with byte %d: %q", b, got)
		}
	}
	for _, s := range texts("a \tB\n", 5) {
		if got, want := Fields(s), plainFields(s); !slices.Equal(got, want) {
			t.Errorf("Fields(%q): %q, want %q", s, got, want)
		}
	}
}

// between is a byte between two letters.
func between(b int) string { return string([]byte{'x', byte(b), 'y'}) }

// plainFields is Fields by another way: cut at each blank, and without empty ones.
func plainFields(s string) []string {
	l := strings.Split(strings.ReplaceAll(s, "\t", " "), " ")
	return slices.DeleteFunc(l, func(f string) bool { return f == "" })
}

// A list that is handed out is new memory.
func TestFieldsNew(t *testing.T) {
	s := "a b"
	Fields(s)[0] = "x"
	if got := Fields(s); !slices.Equal(got, []string{"a", "b"}) {
		t.Errorf("%q", got)
	}
}

// Promise 1.1.
func TestCut(t *testing.T) {
	for _, c := range []struct {
		s          string
		by         byte
		head, rest string
		ok         bool
	}{
		{"", '=', "", "", false},
		{"", 0, "", "", false},
		{"=", '=', "", "", true},
		{"ab", '=', "ab", "", false},
		{"a=b", '=', "a", "b", true},
		{"a=b=c", '=', "a", "b=c", true},
		{"=a", '=', "", "a", true},
		{"a=", '=', "a", "", true},
		{"==", '=', "", "=", true},
		{"aXb", 'x', "aXb", "", false},
		{"a\x00b", 0, "a", "b", true},
		{"a\xffb\xff", 0xff, "a", "b\xff", true},
		{"\u00e4", 0xa4, "\xc3", "", true},
		{"\ufffd", 0xff, "\ufffd", "", false},
	} {
		if head, rest, ok := Cut(c.s, c.by); head != c.head || rest != c.rest || ok != c.ok {
			t.Errorf("Cut(%q, %q): %q, %q, %v", c.s, c.by, head, rest, ok)
		}
	}
	for _, s := range texts("a=\x00", 5) {
		head, rest, ok := Cut(s, '=')
		switch {
		case !ok && (head != s || rest != "" || strings.Contains(s, "=")):
			t.Errorf("Cut(%q): %q, %q, none", s, head, rest)
		case ok && (head+"="+rest != s || strings.Contains(head, "=")):
			t.Errorf("Cut(%q): %q, %q", s, head, rest)
		}
	}
}

// Promise 1.1.
func TestJoin(t *testing.T) {
	for _, c := range []struct {
		by   string
		l    []string
		want string
	}{
		{"", nil, ""},
		{", ", nil, ""},
		{", ", []string{}, ""},
		{", ", []string{"a"}, "a"},
		{", ", []string{""}, ""},
		{", ", []string{"a", "b", "c"}, "a, b, c"},
		{"", []string{"a", "b", "c"}, "abc"},
		{".", []string{"", "", ""}, ".."},
		{".", []string{"b", "", "a"}, "b..a"},
		{"\xff\x00", []string{"\x80", "\n"}, "\x80\xff\x00\n"},
		{"ab", []string{"ab", "ab"}, "ababab"},
	} {
		kept := slices.Clone(c.l)
		if got := Join(c.by, c.l...); got != c.want {
			t.Errorf("Join(%q, %q): %q, want %q", c.by, c.l, got, c.want)
		}
		if !slices.Equal(c.l, kept) {
			t.Errorf("Join(%q, %q) wrote into the list: %q", c.by, kept, c.l)
		}
	}
	if got := Join(" "); got != "" {
		t.Errorf("Join of nothing: %q", got)
	}
	if got := Join(" ", "a", "b"); got != "a b" {
		t.Errorf("Join of two: %q", got)
	}
}

// Promise 1.2, and example 1.
func TestNumber(t *testing.T) {
	noughts := strings.Repeat("0", 1000)
	for _, c := range []struct {
		s    string
		most int
		n    int
		e    api.Errno
	}{
		{"007", 9, 7, api.OK},
		{"0", 0, 0, api.OK},
		{"000", 0, 0, api.OK},
		{"1", 0, 0, api.ErrRange},
		{"9", 9, 9, api.OK},
		{"9", 8, 0, api.ErrRange},
		{"10", 10, 10, api.OK},
		{"11", 10, 0, api.ErrRange},
		{"10", 9, 0, api.ErrRange},
		{"12", 12, 12, api.OK},
		{"13", 12, 0, api.ErrRange},
		{"20", 12, 0, api.ErrRange},
		{"120", 12, 0, api.ErrRange},
		{"65535", 65535, 65535, api.OK},
		{"65536", 65535, 0, api.ErrRange},
		{"2147483647", math.MaxInt32, math.MaxInt32, api.OK},
		{"2147483648", math.MaxInt32, 0, api.ErrRange},
		{noughts, 0, 0, api.OK},
		{noughts + "12", 12, 12, api.OK},
		{noughts + "13", 12, 0, api.ErrRange},
		{"9223372036854775807", math.MaxInt64, math.MaxInt64, api.OK},
		{noughts + "9223372036854775807", math.MaxInt64, math.MaxInt64, api.OK},
		{"9223372036854775806", math.MaxInt64 - 1, math.MaxInt64 - 1, api.OK},
		{"9223372036854775807", math.MaxInt64 - 1, 0, api.ErrRange},
		{"9223372036854775808", math.MaxInt64, 0, api.ErrRange},
		{"18446744073709551615", math.MaxInt64, 0, api.ErrRange},
		{"18446744073709551616", math.MaxInt64, 0, api.ErrRange},
		{"18446744073709551617", math.MaxInt64, 0, api.ErrRange},
		{"18446744073709551617", 5, 0, api.ErrRange},
		{"1" + noughts, math.MaxInt64, 0, api.ErrRange},
		{strings.Repeat("9", 1000), math.MaxInt64, 0, api.ErrRange},
		{"0", -1, 0, api.ErrRange},
		{"1", -1, 0, api.ErrRange},
		{"0", math.MinInt64, 0, api.ErrRange},
		{"9", math.MinInt64, 0, api.ErrRange},
		{"", 12, 0, api.ErrForm},
		{"", -1, 0, api.ErrForm},
		{"x", -1, 0, api.ErrForm},
		{"1x", 0, 0, api.ErrForm},
		{"x1", 9, 0, api.ErrForm},
		{"1 ", 9, 0, api.ErrForm},
		{" 1", 9, 0, api.ErrForm},
		{"+1", 9, 0, api.ErrForm},
		{"-1", 9, 0, api.ErrForm},
		{"-0", 9, 0, api.ErrForm},
		{"-1", -1, 0, api.ErrForm},
		{"1_0", 99, 0, api.ErrForm},
		{"0x1", 9, 0, api.ErrForm},
		{"1e1", 99, 0, api.ErrForm},
		{"1.0", 99, 0, api.ErrForm},
		{"1/", 99, 0, api.ErrForm},
		{"1:", 99, 0, api.ErrForm},
		{"1\x00", 99, 0, api.ErrForm},
		{"\u0661", 9, 0, api.ErrForm},
		{"\uff11", 9, 0, api.ErrForm},
		{strings.Repeat("9", 1000) + "x", 9, 0, api.ErrForm},
	} {
		if n, e := Number(c.s, c.most); n != c.n || e != c.e {
			t.Errorf("Number(%.40q, %d): %d, %v, want %d, %v", c.s, c.most, n, e, c.n, c.e)
		}
	}
}

// Promise 1.2: of one byte, and of short texts, at limits that lie all about the numbers.
func TestNumberAll(t *testing.T) {
	for b := range 256 {
		want, e := 0, api.ErrForm
		if '0' <= b && b <= '9' {
			want, e = b-'0', api.OK
		}
		if n, got := Number(string([]byte{byte(b)}), 9); n != want || got != e {
			t.Errorf("Number of byte %d: %d, %v", b, n, got)
		}
	}
	for _, s := range texts("0139x", 4) {
		for _, most := range []int{math.MinInt64, -11, -10, -9, -1, 0, 1, 2, 3, 8, 9, 10, 12, 13, 99, 100, 130, 999, 9998, 9999, math.MaxInt64} {
			want, e := plainNumber(s, most)
			if n, got := Number(s, most); n != want || got != e {
				t.Errorf("Number(%q, %d): %d, %v, want %d, %v", s, most, n, got, want, e)
			}
		}
	}
}

// plainNumber is Number by another way: by numbers of any size.
func plainNumber(s string, most int) (int, api.Errno) {
	if s == "" || strings.Trim(s, "0123456789") != "" {
		return 0, api.ErrForm
	}
	n, _ := new(big.Int).SetString(s, 10)
	if n.Cmp(big.NewInt(int64(most))) > 0 {
		return 0, api.ErrRange
	}
	return int(n.Int64()), api.OK
}

// Promise 1.2.
func TestDigits(t *testing.T) {
	for _, c := range []struct {
		n    int
		want string
	}{
		{0, "0"},
		{7, "7"},
		{10, "10"},
		{100, "100"},
		{65535, "65535"},
		{-1, "-1"},
		{-10, "-10"},
		{-40, "-40"},
		{math.MaxInt32, "2147483647"},
		{math.MinInt32, "-2147483648"},
		{math.MaxInt64, "9223372036854775807"},
		{math.MinInt64 + 1, "-9223372036854775807"},
		{math.MinInt64, "-9223372036854775808"},
	} {
		if got := Digits(c.n); got != c.want {
			t.Errorf("Digits(%d): %q", c.n, got)
		}
	}
}

// Promise 1.2, and example 1.
func TestHex(t *testing.T) {
	for b := range 256 {
		want := strings.IndexByte("0123456789abcdef", byte(b))
		if want < 0 {
			want = strings.IndexByte("0123456789ABCDEF", byte(b))
		}
		ok := want >= 0
		if n, got := Hex(byte(b)); n != max(want, 0) || got != ok {
			t.Errorf("Hex(%q): %d, %v", byte(b), n, got)
		}
	}
	if n, ok := Hex('F'); n != 15 || !ok {
		t.Errorf("Hex(F): %d, %v", n, ok)
	}
}

// Promise 1.3: folded once is folded for good.
func TestFoldedForGood(t *testing.T) {
	for _, s := range texts("aAzZ@[\xc4", 4) {
		once := Lower(s)
		if twice := Lower(once); twice != once {
			t.Errorf("%q: %q, then %q", s, once, twice)
		}
		if !Same(s, once) || !Same(once, s) {
			t.Errorf("%q and %q are not the same", s, once)
		}
	}
}

// Promise 1.3: what is joined by a byte that it does not have is cut as it was.
func TestJoinedIsCut(t *testing.T) {
	parts := texts("a\xff", 2)
	for _, by := range []byte{'.', 0, 0x80} {
		for _, a := range parts {
			for _, b := range parts {
				for _, c := range parts {
					l := []string{a, b, c}
					if got := cutAll(Join(string([]byte{by}), l...), by); !slices.Equal(got, l) {
						t.Errorf("%q by %q: %q", l, by, got)
					}
				}
			}
		}
	}
}

// cutAll cuts as long as there is what to cut at.
func cutAll(s string, by byte) []string {
	var l []string
	for {
		head, rest, ok := Cut(s, by)
		l = append(l, head)
		if !ok {
			return l
		}
		s = rest
	}
}

// Promise 1.3: digits are read as the number.
func TestDigitsAreRead(t *testing.T) {
	l := []int{math.MaxInt32, math.MaxInt64 - 1, math.MaxInt64}
	for n := range 2000 {
		l = append(l, n)
	}
	for _, n := range l {
		for _, most := range []int{n, math.MaxInt64} {
			if got, e := Number(Digits(n), most); got != n || e != api.OK {
				t.Errorf("Number(Digits(%d), %d): %d, %v", n, most, got, e)
			}
		}
		if got, e := Number(Digits(n), n-1); got != 0 || e != api.ErrRange {
			t.Errorf("Number(Digits(%d), %d): %d, %v", n, n-1, got, e)
		}
		if got, e := Number(Digits(-n-1), math.MaxInt64); got != 0 || e != api.ErrForm {
			t.Errorf("Number(Digits(%d)): %d, %v", -n-1, got, e)
		}
	}
}

// P1: whatever the arguments, every call ends, and beside an error or a false nothing else is told.
func FuzzAscii(f *testing.F) {
	for _, s := range []string{"", " \t", "a=b", "AbC-\xc4", "007", "18446744073709551617", "-1", "\xff\x00"} {
		f.Add(s, "x", byte('='), 9)
		f.Add("x", s, byte(0), -1)
		f.Add(s, s, byte(0xff), math.MinInt64)
	}
	f.Fuzz(func(t *testing.T, a, b string, by byte, n int) {
		if Same(a, b) != (Lower(a) == Lower(b)) {
			t.Errorf("Same(%q, %q)", a, b)
		}
		if got := Fields(a); !slices.Equal(got, plainFields(a)) {
			t.Errorf("Fields(%q): %q", a, got)
		}
		if head, rest, ok := Cut(a, by); !ok && (head != a || rest != "") || ok && head+string([]byte{by})+rest != a {
			t.Errorf("Cut(%q, %q): %q, %q, %v", a, by, head, rest, ok)
		}
		if got := Join(b, a, a); got != a+b+a {
			t.Errorf("Join(%q, %q, %q): %q", b, a, a, got)
		}
		want, wrong := plainNumber(a, n)
		if got, e := Number(a, n); got != want || e != wrong {
			t.Errorf("Number(%q, %d): %d, %v", a, n, got, e)
		}
		if got := Digits(n); got != big.NewInt(int64(n)).String() {
			t.Errorf("Digits(%d): %q", n, got)
		}
		if v, ok := Hex(by); !ok && v != 0 {
			t.Errorf("Hex(%d): %d", by, v)
		}
	})
}
