// Package ascii is layer 1: bytes, texts, and numbers in digits. See shared/doc/01-ascii.md.
package ascii

import (
	"strconv"
	"strings"

	"wayfinder/api"
)

// Lower is a text with small letters.
func Lower(s string) string {
	// By bytes, not by code points: a text may be any bytes, and those that are no letters stay.
	out := []byte(s)
	for i, c := range out {
		out[i] = small(c)
	}
	return string(out)
}

// Same tells whether two texts are one but for great and small letters.
func Same(a, b string) bool {
	return Lower(a) == Lower(b)
}

// Fields is what stands between blanks.
func Fields(s string) []string {
	var out []string
	start := 0
	for i := range len(s) + 1 {
		if i < len(s) && !blank(s[i]) {
			continue
		}
		if start < i {
			out = append(out, s[start:i])
		}
		start = i + 1
	}
	return out
}

// Cut is what stands ahead of a byte, and behind it.
func Cut(s string, by byte) (string, string, bool) {
	at := strings.IndexByte(s, by)
	if at < 0 {
		return s, "", false
	}
	return s[:at], s[at+1:], true
}

// Join is texts with one between.
func Join(by string, l ...string) string {
	return strings.Join(l, by)
}

// Number is the number that digits are.
func Number(s string, most int) (int, api.Errno) {
	// All bytes are looked at first, as ErrForm goes ahead of ErrRange however great the number is.
	if !digits(s) {
		return 0, api.ErrForm
	}
	n := 0
	for i := range len(s) {
		d := int(s[i] - '0')
		// Asked ahead of the step, so that n never wraps round; a digit above most comes first, so that most less it is not below 0.
		if d > most || n > (most-d)/10 {
			return 0, api.ErrRange
		}
		n = n*10 + d
	}
	return n, api.OK
}

// Digits are a number's.
func Digits(n int) string {
	return strconv.Itoa(n)
}

// Hex is the number of a digit of the base 16.
func Hex(c byte) (int, bool) {
	switch {
	case '0' <= c && c <= '9':
		return int(c - '0'), true
	case 'a' <= c && c <= 'f':
		return int(c-'a') + 10, true
	case 'A' <= c && c <= 'F':
		return int(c-'A') + 10, true
	}
	return 0, false
}

// small is a byte, as a small letter if it is a great one.
func small(c byte) byte {
	if 'A' <= c && c <= 'Z' {
		return c + ('a' - 'A')
	}
	return c
}

// blank tells whether a byte is one.
func blank(c byte) bool {
	return c == ' ' || c == '\t'
}

// digits tells whether a text has at least one byte, and digits alone.
func digits(s string) bool {
	for i := range len(s) {
		if s[i] < '0' || '9' < s[i] {
			return false
		}
	}
	return s != ""
}
