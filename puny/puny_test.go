package puny

import (
	"math"
	"math/big"
	"slices"
	"strings"
	"testing"

	"wayfinder/api"
)

// plainBias is the bias behind a number.
func plainBias(d int64, n int, first bool) int64 {
	by := int64(2)
	if first {
		by = 700
	}
	d = d/by + d/by/int64(n)
	for j := int64(0); ; j++ {
		if d <= 455 {
			return j*36 + 36*d/(d+38)
		}
		d /= 35
	}
}

// plainBound is the bound of the k-th figure.
func plainBound(k int, bias int64) int64 {
	switch t := int64(36*k) - bias; {
	case t < 1:
		return 1
	case t > 26:
		return 26
	default:
		return t
	}
}

// plainFigures are the figures of a number, from the k-th one on.
func plainFigures(d, bias int64, k int) string {
	t := plainBound(k, bias)
	if d < t {
		return plainFigure(d)
	}
	return plainFigure(t+(d-t)%(36-t)) + plainFigures((d-t)/(36-t), bias, k+1)
}

// plainFigure is how a figure is written.
func plainFigure(f int64) string {
	if f < 26 {
		return string(rune('a' + f))
	}
	return string(rune('0' + f - 26))
}

// plainValue is the figure that a byte is, or -1.
func plainValue(b byte) int64 {
	switch {
	case 'a' <= b && b <= 'z':
		return int64(b - 'a')
	case 'A' <= b && b <= 'Z':
		return int64(b - 'A')
	case '0' <= b && b <= '9':
		return int64(b-'0') + 26
	default:
		return -1
	}
}

// texts are basic points that stand for themselves, and behind them numbers, each by its bias.
func texts(basic string, numbers ...int64) string {
	out := basic
	if basic != "" {
		out += "-"
	}
	bias := int64(72)
	for i, d := range numbers {
		out += plainFigures(d, bias, 1)
		bias = plainBias(d, len(basic)+i+1, i == 0)
	}
	return out
}

// plainEncode is Encode by another way: the far points sorted, and between two of them the sum that leads from the place behind the one to the place of the other.
func plainEncode(l []rune) (string, api.Errno) {
	if len(l) > 4096 {
		return "", api.ErrLong
	}
	basic := ""
	var far []int
	for i, c := range l {
		if c < 0 || 0x10ffff < c {
			return "", api.ErrRange
		}
		if c < 128 {
			basic += string(c)
		} else {
			far = append(far, i)
		}
	}
	slices.SortStableFunc(far, func(a, b int) int { return int(l[a] - l[b]) })
	n, at := rune(128), 0
	var numbers []int64
	in := make([]bool, len(l))
	for i, c := range l {
		in[i] = c < 128
	}
	for i, place := range far {
		ahead := 0
		for _, is := range in[:place] {
			if is {
				ahead++
			}
		}
		d := int64(l[place]-n)*int64(len(basic)+i+1) + int64(ahead-at)
		if d > math.MaxUint32 {
			return "", api.ErrOver
		}
		numbers = append(numbers, d)
		n, at, in[place] = l[place], ahead+1, true
	}
	return texts(basic, numbers...), api.OK
}

// plainNumber is the number with whose figures s begins, in whole numbers of any size, and how many figures it has.
func plainNumber(s string, bias int64) (*big.Int, int, api.Errno) {
	sum, weight, most := big.NewInt(0), big.NewInt(1), big.NewInt(math.MaxUint32)
	for k := 1; ; k++ {
		if k > len(s) || plainValue(s[k-1]) < 0 {
			return nil, 0, api.ErrForm
		}
		f, t := plainValue(s[k-1]), plainBound(k, bias)
		sum.Add(sum, new(big.Int).Mul(big.NewInt(f), weight))
		if sum.Cmp(most) > 0 {
			return nil, 0, api.ErrOver
		}
		if f < t {
			return sum, k, api.OK
		}
		weight.Mul(weight, big.NewInt(36-t))
		if weight.Cmp(most) > 0 {
			return nil, 0, api.ErrOver
		}
	}
}

// plainDecode is Decode by another way: each number is split by the whole state, n times many and at.
func plainDecode(s string) ([]rune, api.Errno) {
	if len(s) > 32768 {
		return nil, api.ErrLong
	}
	basic, rest := "", s
	if i := strings.LastIndex(s, "-"); i >= 0 {
		basic, rest = s[:i], s[i+1:]
	}
	out := []rune{}
	for i := range len(basic) {
		if basic[i] > 127 {
			return nil, api.ErrForm
		}
		out = append(out, rune(basic[i]))
	}
	if len(out) > 4096 {
		return nil, api.ErrLong
	}
	n, at, bias := int64(128), int64(0), int64(72)
	for first := true; rest != ""; first = false {
		d, k, e := plainNumber(rest, bias)
		if e != api.OK {
			return nil, e
		}
		many := int64(len(out) + 1)
		if at+d.Int64() > math.MaxUint32 {
			return nil, api.ErrOver
		}
		state := n*many + at + d.Int64()
		n, at = state/many, state%many
		if n > 0x10ffff {
			return nil, api.ErrRange
		}
		if many > 4096 {
			return nil, api.ErrLong
		}
		out = append(out[:at:at], append([]rune{rune(n)}, out[at:]...)...)
		bias, rest, at = plainBias(d.Int64(), int(many), first), rest[k:], at+1
	}
	return out, api.OK
}

// samples are those of RFC 3492 (7.1), with small letters for figures.
func samples() [][2]string {
	return [][2]string{
		{"egbpdaj6bu4bxfgehfvwxn", "\u0644\u064a\u0647\u0645\u0627\u0628\u062a\u0643\u0644\u0645\u0648\u0634\u0639\u0631\u0628\u064a\u061f"},
		{"ihqwcrb4cv8a8dqg056pqjye", "\u4ed6\u4eec\u4e3a\u4ec0\u4e48\u4e0d\u8bf4\u4e2d\u6587"},
		{"ihqwctvzc91f659drss3x8bo0yb", "\u4ed6\u5011\u7232\u4ec0\u9ebd\u4e0d\u8aaa\u4e2d\u6587"},
		{"Proprostnemluvesky-uyb24dma41a", "Pro\u010dprost\u011bnemluv\u00ed\u010desky"},
		{"4dbcagdahymbxekheh6e0a7fei0b", "\u05dc\u05de\u05d4\u05d4\u05dd\u05e4\u05e9\u05d5\u05d8\u05dc\u05d0\u05de\u05d3\u05d1\u05e8\u05d9\u05dd\u05e2\u05d1\u05e8\u05d9\u05ea"},
		{"i1baa7eci9glrd9b2ae1bj0hfcgg6iyaf8o0a1dig0cd", "\u092f\u0939\u0932\u094b\u0917\u0939\u093f\u0928\u094d\u0926\u0940\u0915\u094d\u092f\u094b\u0902\u0928\u0939\u0940\u0902\u092c\u094b\u0932\u0938\u0915\u0924\u0947\u0939\u0948\u0902"},
		{"n8jok5ay5dzabd5bym9f0cm5685rrjetr6pdxa", "\u306a\u305c\u307f\u3093\u306a\u65e5\u672c\u8a9e\u3092\u8a71\u3057\u3066\u304f\u308c\u306a\u3044\u306e\u304b"},
		{"989aomsvi5e83db1d2a355cv1e0vak1dwrv93d5xbh15a0dt30a5jpsd879ccm6fea98c", "\uc138\uacc4\uc758\ubaa8\ub4e0\uc0ac\ub78c\ub4e4\uc774\ud55c\uad6d\uc5b4\ub97c\uc774\ud574\ud55c\ub2e4\uba74\uc5bc\ub9c8\ub098\uc88b\uc744\uae4c"},
		{"b1abfaaepdrnnbgefbadotcwatmq2g4l", "\u043f\u043e\u0447\u0435\u043c\u0443\u0436\u0435\u043e\u043d\u0438\u043d\u0435\u0433\u043e\u0432\u043e\u0440\u044f\u0442\u043f\u043e\u0440\u0443\u0441\u0441\u043a\u0438"},
		{"PorqunopuedensimplementehablarenEspaol-fmd56a", "Porqu\u00e9nopuedensimplementehablarenEspa\u00f1ol"},
		{"TisaohkhngthchnitingVit-kjcr8268qyxafd2f1b9g", "T\u1ea1isaoh\u1ecdkh\u00f4ngth\u1ec3ch\u1ec9n\u00f3iti\u1ebfngVi\u1ec7t"},
		{"3B-ww4c5e180e575a65lsy2b", "3\u5e74B\u7d44\u91d1\u516b\u5148\u751f"},
		{"-with-SUPER-MONKEYS-pc58ag80a8qai00g7n9n", "\u5b89\u5ba4\u5948\u7f8e\u6075-with-SUPER-MONKEYS"},
		{"Hello-Another-Way--fc4qua05auwb3674vfr0b", "Hello-Another-Way-\u305d\u308c\u305e\u308c\u306e\u5834\u6240"},
		{"2-u9tlzr9756bt3uc0v", "\u3072\u3068\u3064\u5c4b\u6839\u306e\u4e0b2"},
		{"MajiKoi5-783gue6qz075azm5e", "Maji\u3067Koi\u3059\u308b5\u79d2\u524d"},
		{"de-jg4avhby1noc0d", "\u30d1\u30d5\u30a3\u30fcde\u30eb\u30f3\u30d0"},
		{"d9juau41awczczp", "\u305d\u306e\u30b9\u30d4\u30fc\u30c9\u3067"},
		{"-> $1.00 <--", "-> $1.00 <-"},
	}
}

// Promises 3.1 and 3.2.
func TestSamples(t *testing.T) {
	for _, c := range samples() {
		l := []rune(c[1])
		if got, e := Encode(l); got != c[0] || e != api.OK {
			t.Errorf("Encode(%q): %q, %v", c[1], got, e)
		}
		if got, e := Decode(c[0]); !slices.Equal(got, l) || e != api.OK {
			t.Errorf("Decode(%q): %x, %v", c[0], got, e)
		}
	}
}

// Promise 3.1, and example 1.
func TestEncode(t *testing.T) {
	for _, c := range []struct {
		l    []rune
		want string
		e    api.Errno
	}{
		{nil, "", api.OK},
		{[]rune{}, "", api.OK},
		{[]rune{'b', 0xfc, 'c', 'h', 'e', 'r'}, "bcher-kva", api.OK},
		{[]rune{0xfc}, "tda", api.OK},
		{[]rune{'a'}, "a-", api.OK},
		{[]rune{'a', 'B', '0'}, "aB0-", api.OK},
		{[]rune{'-'}, "--", api.OK},
		{[]rune{'-', '-'}, "---", api.OK},
		{[]rune{0, 127, ' ', '\n'}, "\x00\x7f \n-", api.OK},
		// The least far point, alone, behind, ahead, and more than once.
		{[]rune{128}, "a", api.OK},
		{[]rune{128, 128}, "aa", api.OK},
		{[]rune{127, 128}, "\x7f-ba", api.OK},
		{[]rune{128, 127}, "\x7f-a", api.OK},
		// The greatest one, and such as no text has.
		{[]rune{0x10ffff}, "dn32g", api.OK},
		{[]rune{0xd800}, "ib9b", api.OK},
		// The first number is 6299, or 6300, which is 9 times 700: the bound of the next one's first figure is 26, or 25.
		{[]rune{0x1928, 0x191b}, "8efz", api.OK},
		{[]rune{0x1929, 0x191c}, "9efza", api.OK},
		{[]rune{-1}, "", api.ErrRange},
		{[]rune{0x110000}, "", api.ErrRange},
		{[]rune{math.MinInt32}, "", api.ErrRange},
		{[]rune{math.MaxInt32}, "", api.ErrRange},
		{[]rune{'a', 0xfc, -1}, "", api.ErrRange},
		{[]rune{0x110000, 'a'}, "", api.ErrRange},
		{[]rune{'a', 0x110000, 0xfc}, "", api.ErrRange},
	} {
		kept := slices.Clone(c.l)
		if got, e := Encode(c.l); got != c.want || e != c.e {
			t.Errorf("Encode(%x): %q, %v", c.l, got, e)
		}
		if got, e := plainEncode(c.l); got != c.want || e != c.e {
			t.Errorf("the plain way of %x: %q, %v", c.l, got, e)
		}
		if !slices.Equal(c.l, kept) {
			t.Errorf("Encode(%x) wrote into the list: %x", kept, c.l)
		}
	}
}

// many are n points c.
func many(n int, c rune) []rune { return slices.Repeat([]rune{c}, n) }

// Promise 3.1: at most 4096 points, whatever they are, and as soon as steps is above 2^32 - 1.
func TestEncodeEdges(t *testing.T) {
	for i, c := range []struct {
		l []rune
		e api.Errno
	}{
		{many(4096, 'a'), api.OK},
		{many(4097, 'a'), api.ErrLong},
		{many(4096, 0x10ffff), api.OK},
		{many(4097, 0x10ffff), api.ErrLong},
		{many(4097, -1), api.ErrLong},
		{many(4096, -1), api.ErrRange},
		{append(many(4095, 'a'), 0x110000), api.ErrRange},
		{append(many(4096, 'a'), 0x110000), api.ErrLong},
		// Some far point is over, but another one is none.
		{append([]rune{0x10ffff, -1}, many(4094, 'a')...), api.ErrRange},
		// 4095 are done, so that steps grows by 4096 times 2^20 - 1, and by all that stand ahead: that is 2^32 - 1.
		{append(many(4095, 'a'), 0x10007f), api.OK},
		{append(many(4095, 'a'), 0x100080), api.ErrOver},
		{append([]rune{0x100080}, many(4095, 'a')...), api.ErrOver},
		{append([]rune{0x10ffff}, many(4095, 'a')...), api.ErrOver},
		// 4094 are done, so that steps grows by 4095 times 1048832, and by all that stand ahead: with 255 of them that is 2^32 - 1.
		{slices.Concat(many(255, 'a'), []rune{0x100180}, many(3839, 'a')), api.OK},
		{slices.Concat(many(256, 'a'), []rune{0x100180}, many(3838, 'a')), api.ErrOver},
		// Far ones that are done count as basic ones do, and steps begins anew behind each.
		{slices.Concat([]rune{0x100180}, many(3839, 0x80), many(255, 'a')), api.OK},
		{slices.Concat(many(255, 0x80), []rune{0x100180}, many(3839, 'a')), api.OK},
		{slices.Concat(many(4094, 'a'), []rune{0x80000, 0x10ffff}), api.OK},
		{slices.Concat(many(4094, 'a'), []rune{0x100181, 0x100181}), api.ErrOver},
		{slices.Concat([]rune{0x81}, many(4094, 'a'), []rune{0x100080}), api.OK},
	} {
		want, e := plainEncode(c.l)
		if e != c.e {
			t.Errorf("the plain way of row %d: %v", i, e)
		}
		got, e := Encode(c.l)
		if got != want || e != c.e {
			t.Errorf("row %d: %.20q.., %v", i, got, e)
		}
		if e != api.OK {
			continue
		}
		if l, e := Decode(got); !slices.Equal(l, c.l) || e != api.OK {
			t.Errorf("row %d, read: %.20x.., %v", i, l, e)
		}
	}
}

// Promise 3.2, and example 1.
func TestDecode(t *testing.T) {
	for _, c := range []struct {
		s    string
		want []rune
		e    api.Errno
	}{
		{"", nil, api.OK},
		{"bcher-kva", []rune{'b', 0xfc, 'c', 'h', 'e', 'r'}, api.OK},
		{"tda", []rune{0xfc}, api.OK},
		{"abc-", []rune{'a', 'b', 'c'}, api.OK},
		{"a", []rune{128}, api.OK},
		{"aa", []rune{128, 128}, api.OK},
		{"dn32g", []rune{0x10ffff}, api.OK},
		{"ib9b", []rune{0xd800}, api.OK},
		// The last hyphen alone parts them, and it is gone by even if nothing stands ahead.
		{"-", nil, api.OK},
		{"--", []rune{'-'}, api.OK},
		{"a-b-", []rune{'a', '-', 'b'}, api.OK},
		{"a--", []rune{'a', '-'}, api.OK},
		{"-tda", []rune{0xfc}, api.OK},
		{"--a", []rune{128, '-'}, api.OK},
		{"tda-", []rune{'t', 'd', 'a'}, api.OK},
		{"\x00\x7f !-", []rune{0, 127, ' ', '!'}, api.OK},
		// Great letters are figures too, but stay great where they stand for themselves.
		{"TDA", []rune{0xfc}, api.OK},
		{"tDa", []rune{0xfc}, api.OK},
		{"BCHER-KVA", []rune{'B', 0xfc, 'C', 'H', 'E', 'R'}, api.OK},
		// Basic ones that are none.
		{"\x80-", nil, api.ErrForm},
		{"\xe9-", nil, api.ErrForm},
		{"\xff-a", nil, api.ErrForm},
		{"a\x80-", nil, api.ErrForm},
		{"\xc3\xbc-", nil, api.ErrForm},
		// Figures that are lacking, or are none.
		{"z", nil, api.ErrForm},
		{"td", nil, api.ErrForm},
		{"bcher-kv", nil, api.ErrForm},
		{"tda9", nil, api.ErrForm},
		{"a-b!", nil, api.ErrForm},
		{"a-!", nil, api.ErrForm},
		{"a-t!a", nil, api.ErrForm},
		{"@", nil, api.ErrForm},
		{"[", nil, api.ErrForm},
		{"`", nil, api.ErrForm},
		{"{", nil, api.ErrForm},
		{"/", nil, api.ErrForm},
		{":", nil, api.ErrForm},
		{"\x00", nil, api.ErrForm},
		{" ", nil, api.ErrForm},
		{"\xe9", nil, api.ErrForm},
		{"a-\xe9", nil, api.ErrForm},
		{"tda ", nil, api.ErrForm},
		// Of two numbers the first one that is wrong is told.
		{"!99999999999", nil, api.ErrForm},
		{"99999999999!", nil, api.ErrOver},
		{"99999999999", nil, api.ErrOver},
		{"9999\xff", nil, api.ErrForm},
		{"\xff-99999999999", nil, api.ErrForm},
		{"999999b", nil, api.ErrRange},
		{"999999b!", nil, api.ErrRange},
	} {
		if got, e := Decode(c.s); !slices.Equal(got, c.want) || e != c.e {
			t.Errorf("Decode(%q): %x, %v", c.s, got, e)
		}
		if got, e := plainDecode(c.s); !slices.Equal(got, c.want) || e != c.e {
			t.Errorf("the plain way of %q: %x, %v", c.s, got, e)
		}
	}
}

// Promise 3.2: all bytes, as a figure and as a basic point.
func TestDecodeBytes(t *testing.T) {
	for b := range 256 {
		s := string([]byte{byte(b)})
		for _, s := range []string{s, s + "a", "a-" + s, "a-" + s + "a", s + "-", "t" + s + "a", "td" + s} {
			want, wantE := plainDecode(s)
			if got, e := Decode(s); !slices.Equal(got, want) || e != wantE {
				t.Errorf("Decode(%q): %x, %v, want %x, %v", s, got, e, want, wantE)
			}
		}
	}
}

// Promise 3.2: how many bytes and points there may be, and how great the numbers, in the order of the errors.
func TestDecodeEdges(t *testing.T) {
	aaa := strings.Repeat("a", 4096)
	for i, c := range []struct {
		s string
		e api.Errno
	}{
		// 32768 bytes.
		{"!" + strings.Repeat("a", 32767), api.ErrForm},
		{"!" + strings.Repeat("a", 32768), api.ErrLong},
		{strings.Repeat("\xff", 32767) + "-", api.ErrForm},
		{strings.Repeat("\xff", 32768) + "-", api.ErrLong},
		// 4096 basic points.
		{aaa + "-", api.OK},
		{aaa + "a-", api.ErrLong},
		{aaa + "a-!", api.ErrLong},
		{aaa + "aa\x80-", api.ErrForm},
		{"\x80" + aaa + "-", api.ErrForm},
		// 4096 points in all, and one more: its number must be whole, and it must be a point.
		{aaa[1:] + "-a", api.OK},
		{aaa[1:] + "-aa", api.ErrLong},
		{aaa + "-a", api.ErrLong},
		{aaa, api.OK},
		{aaa + "a", api.ErrLong},
		{aaa + "!", api.ErrForm},
		{aaa + "-!", api.ErrForm},
		{aaa + "-t", api.ErrForm},
		{aaa + "-a!", api.ErrLong},
		{aaa + "-99999999999", api.ErrOver},
		{texts(aaa, math.MaxUint32), api.ErrLong},
		{texts(aaa, math.MaxUint32+1), api.ErrOver},
		{texts(aaa[2:], 0x80000*4095, 0x10ffff*4096), api.ErrOver},
		{texts(aaa[1:], 0x80000*4096, 0x90000*4097), api.ErrRange},
		{texts(aaa[1:], 0x80000*4096, 0x80000*4097), api.ErrLong},
		// A number is over.
		{texts("", math.MaxUint32), api.ErrRange},
		{texts("", math.MaxUint32+1), api.ErrOver},
		{texts(aaa[1:], math.MaxUint32), api.OK},
		{texts(aaa[1:], math.MaxUint32+1), api.ErrOver},
		{texts("", math.MaxInt64), api.ErrOver},
		// The place is over: it stands behind the point that was put in.
		{texts("", 0, math.MaxUint32-1), api.ErrRange},
		{texts("", 0, math.MaxUint32), api.ErrOver},
		{texts(aaa[2:], 4094, math.MaxUint32-4095), api.OK},
		{texts(aaa[2:], 4094, math.MaxUint32-4094), api.ErrOver},
		{texts(aaa[2:], 4094, math.MaxUint32), api.ErrOver},
		// The greatest point.
		{texts("", 0x10ffff-128), api.OK},
		{texts("", 0x10ffff-127), api.ErrRange},
		{texts("ab", 3*(0x110000-128)-1), api.OK},
		{texts("ab", 3*(0x110000-128)), api.ErrRange},
		{texts("", 0x10ffff-128, 0, 0), api.OK},
		{texts("", 0x10ffff-128, 1), api.ErrRange},
		// A figure of nought at the end, where the number comes out.
		{"ba", api.OK},
		{"bba", api.OK},
	} {
		want, e := plainDecode(c.s)
		if e != c.e {
			t.Errorf("the plain way of row %d: %v", i, e)
		}
		if got, e := Decode(c.s); !slices.Equal(got, want) || e != c.e {
			t.Errorf("row %d: %d points, %v, want %v", i, len(got), e, c.e)
		}
	}
}

// Promise 3.2: the sum of the figures is over wherever the weight of one that must follow is, whatever the bias; so which of the two is looked at first doesn't show.
func TestWeights(t *testing.T) {
	for bias := range int64(213) {
		weight := int64(1)
		for k := 1; ; k++ {
			b := plainBound(k, bias)
			if weight*(36-b) > math.MaxUint32 {
				if b*weight <= math.MaxUint32 {
					t.Errorf("bias %d, figure %d", bias, k)
				}
				break
			}
			weight *= 36 - b
		}
	}
}

// A list that is handed out is new memory.
func TestDecodeNew(t *testing.T) {
	l, _ := Decode("bcher-kva")
	l[0] = 'x'
	if got, _ := Decode("bcher-kva"); got[0] != 'b' {
		t.Errorf("%q", got)
	}
}

// rows are all lists of up to n members of one.
func rows[T any](n int, of []T) [][]T {
	all := [][]T{nil}
	last := all
	for range n {
		var next [][]T
		for _, l := range last {
			for _, c := range of {
				next = append(next, append(l[:len(l):len(l)], c))
			}
		}
		all = append(all, next...)
		last = next
	}
	return all
}

// checkEncode holds what Encode answers against the plain way, and has Decode undo it.
func checkEncode(t *testing.T, l []rune) {
	want, wantE := plainEncode(l)
	s, e := Encode(l)
	if s != want || e != wantE {
		t.Errorf("Encode(%x): %q, %v, want %q, %v", l, s, e, want, wantE)
	}
	if e != api.OK {
		return
	}
	if got, e := Decode(s); !slices.Equal(got, l) || e != api.OK {
		t.Errorf("Decode(%q): %x, %v, want %x", s, got, e, l)
	}
}

// checkDecode holds what Decode answers against the plain way, and what is written of that must be read as it was.
func checkDecode(t *testing.T, s string) {
	want, wantE := plainDecode(s)
	l, e := Decode(s)
	if !slices.Equal(l, want) || e != wantE {
		t.Errorf("Decode(%q): %x, %v, want %x, %v", s, l, e, want, wantE)
	}
	checkEncode(t, l)
}

// Promises 3.1 and 3.3: all short lists of points at which something changes.
func TestEncodeAll(t *testing.T) {
	for _, l := range rows(5, []rune{'-', 'a', 127, 128, 129, 0xfc, 0x20ac, 0xd800, 0x10fffe, 0x10ffff}) {
		checkEncode(t, l)
	}
	for _, l := range rows(3, []rune{-1, 0, 'a', 128, 0x10ffff, 0x110000}) {
		checkEncode(t, l)
	}
}

// Promises 3.2 and 3.3: all short texts of bytes at which something changes.
func TestDecodeAll(t *testing.T) {
	for _, b := range rows(5, []byte("-aAbsyzZ089!\x7f\x80")) {
		checkDecode(t, string(b))
	}
	// Long enough for numbers that are over.
	for _, b := range rows(11, []byte("a9z")) {
		checkDecode(t, string(b))
	}
}

// Promise 3.3: each point alone, and beside others.
func TestEachPoint(t *testing.T) {
	for c := rune(0); c <= 0x10ffff; c++ {
		checkEncode(t, []rune{c})
		checkEncode(t, []rune{c + 13, c})
		if c < 0x3000 || c%257 == 0 {
			checkEncode(t, []rune{'a', c, 'b', c + 1, 0x20ac, c - 1, c})
		}
	}
}

// Promise 3.3: long lists, in several orders.
func TestLongLists(t *testing.T) {
	for _, step := range []int{0, 1, 7, 255, 272, 1000, 65537, 500009, 1114111} {
		for _, n := range []int{50, 1000, 4096} {
			var l []rune
			for i := range n {
				l = append(l, rune(i*step%0x110000))
			}
			checkEncode(t, l)
			slices.Reverse(l)
			checkEncode(t, l)
		}
	}
}

// Promises 3.1, 3.2, 3.3 and P1, at any bytes: as a text, and as points.
func FuzzPuny(f *testing.F) {
	for _, s := range []string{"", "bcher-kva", "-tda", "a-b!", "99999999999", "999999b", "\xe9-", "b\u00fccher"} {
		f.Add(s)
	}
	for _, c := range samples() {
		f.Add(c[0])
		f.Add(c[1])
	}
	f.Fuzz(func(t *testing.T, s string) {
		checkDecode(t, s)
		checkEncode(t, []rune(s))
		var l []rune
		for ; len(s) >= 3; s = s[3:] {
			l = append(l, rune(s[0])<<16|rune(s[1])<<8|rune(s[2]))
		}
		checkEncode(t, l)
	})
}
