// Package count is layer 1: see shared/doc/01-count.md.
package count

import (
	"strconv"
	"strings"

	"stet/api"
)

// Styles of a counter's text.
const (
	Arabic = iota
	Roman
	Upper
	Letters
	Styles
)

// The last counter that has Roman numerals.
const lastRoman = 3999

const alphabet = "abcdefghijklmnopqrstuvwxyz"

type numeral struct {
	value int
	text  string
}

// The greatest come first, and 4s and 9s are rows of their own: so taking the first row that fits is always right.
var numerals = [...]numeral{
	{1000, "m"}, {900, "cm"}, {500, "d"}, {400, "cd"},
	{100, "c"}, {90, "xc"}, {50, "l"}, {40, "xl"},
	{10, "x"}, {9, "ix"}, {5, "v"}, {4, "iv"},
	{1, "i"},
}

// Cut is a number as a counter.
func Cut(n int) int {
	return min(max(n, 0), api.MaxCount)
}

// Add is a sum of counters, and whether it came to its end.
func Add(a, b int) (int, bool) {
	// Both are cut first, so that their sum can't wrap round.
	sum := Cut(a) + Cut(b)
	return Cut(sum), sum > api.MaxCount
}

// Text is a counter's text.
func Text(n, style int) string {
	n = Cut(n)
	capital := false
	switch style {
	case Upper:
		capital = true
		fallthrough
	case Roman:
		if n >= 1 && n <= lastRoman {
			return romanText(n, capital)
		}
	case Letters:
		if n >= 1 {
			return lettersText(n)
		}
	}
	return strconv.Itoa(n)
}

// Value is the counter that a text is.
func Value(s string, style int) (int, api.Errno) {
	n := guess(s, style)
	// A guess is made of any text; only the counter's own text counts.
	if Text(n, style) != s {
		return 0, api.ErrForm
	}
	return n, api.OK
}

// guess is the one counter whose text s can be, if s is one at all.
func guess(s string, style int) int {
	small := s
	switch style {
	case Upper:
		small = strings.ToLower(s)
		fallthrough
	case Roman:
		if n := romanValue(small); n > 0 {
			return n
		}
	case Letters:
		if n := placesValue(s, 'a', 26, 1); n > 0 {
			return n
		}
	}
	return placesValue(s, '0', 10, 0)
}

func romanText(n int, capital bool) string {
	s := ""
	for _, x := range numerals {
		for n >= x.value {
			n -= x.value
			s += x.text
		}
	}
	if capital {
		return strings.ToUpper(s)
	}
	return s
}

// romanValue leaves out what is behind the last numeral that it knows: Value finds that out.
func romanValue(s string) int {
	n := 0
	for _, x := range numerals {
		for strings.HasPrefix(s, x.text) {
			n, _ = Add(n, x.value)
			s = s[len(x.text):]
		}
	}
	return n
}

// lettersText counts from 1 at each place: there is no letter for 0, so that aa follows z.
func lettersText(n int) string {
	s := ""
	for ; n > 0; n = (n - 1) / len(alphabet) {
		i := (n - 1) % len(alphabet)
		s = alphabet[i:i+1] + s
	}
	return s
}

// placesValue is a text of so many unlike signs from first on, the first of which is worth low; 0, if it has others.
func placesValue(s string, first byte, signs, low int) int {
	n := 0
	for i := range len(s) {
		sign := int(s[i]) - int(first)
		if sign < 0 || sign >= signs {
			return 0
		}
		// Cut at each place, so that a long text can't wrap round.
		n = Cut(n*signs + sign + low)
	}
	return n
}
