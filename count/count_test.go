package count

import (
	"math"
	"strconv"
	"strings"
	"testing"

	"stet/api"
)

// All styles, and numbers that are no style.
var styles = []int{Arabic, Roman, Upper, Letters, Styles, -1, 9, math.MinInt, math.MaxInt}

// The styles are numbers that others may have kept: they stay in their order.
func TestStyles(t *testing.T) {
	if Arabic != 0 || Roman != 1 || Upper != 2 || Letters != 3 || Styles != 4 {
		t.Fatal(Arabic, Roman, Upper, Letters, Styles)
	}
}

// P1.1
func TestCut(t *testing.T) {
	for _, c := range [][2]int{
		{0, 0}, {1, 1}, {77, 77}, {3999, 3999}, {4000, 4000}, {999998, 999998}, {999999, 999999},
		{-1, 0}, {-999999, 0}, {math.MinInt, 0},
		{1000000, 999999}, {1 << 32, 999999}, {math.MaxInt, 999999},
	} {
		if n := Cut(c[0]); n != c[1] {
			t.Errorf("Cut(%d) = %d, not %d", c[0], n, c[1])
		}
	}
}

// P1.1
func TestAdd(t *testing.T) {
	for _, c := range []struct {
		a, b, sum int
		over      bool
	}{
		{0, 0, 0, false}, {1, 2, 3, false}, {0, 1, 1, false}, {4000, 3999, 7999, false},
		{999998, 1, 999999, false}, {999999, 0, 999999, false}, {500000, 499999, 999999, false},
		{500000, 500000, 999999, true}, {999999, 1, 999999, true}, {999999, 999999, 999999, true},
		{-5, 7, 7, false}, {-1, -1, 0, false}, {999999, -1, 999999, false}, {math.MinInt, math.MinInt, 0, false},
		{1000000, 0, 999999, false}, {1000000, -1, 999999, false}, {math.MaxInt, 0, 999999, false},
		{math.MaxInt, math.MinInt, 999999, false},
		{1000000, 1, 999999, true}, {math.MaxInt, 1, 999999, true}, {math.MaxInt, math.MaxInt, 999999, true},
	} {
		for _, p := range [][2]int{{c.a, c.b}, {c.b, c.a}} {
			if n, over := Add(p[0], p[1]); n != c.sum || over != c.over {
				t.Errorf("Add(%d, %d) = %d, %v, not %d, %v", p[0], p[1], n, over, c.sum, c.over)
			}
		}
	}
}

// P1.3
func TestSumsStayAtTheirEnd(t *testing.T) {
	n, over := 0, false
	for _, step := range []int{999998, 1, 0, 1, 5, 999999, -3, math.MaxInt, math.MinInt} {
		n, over = Add(n, step)
		if n < 999998 || n > 999999 || over && n != 999999 {
			t.Fatal(step, n, over)
		}
	}
	if n != 999999 {
		t.Fatal(n)
	}
	for b := range 1000000 {
		if n, over := Add(999999, b); n != 999999 || over != (b > 0) {
			t.Fatal(b, n, over)
		}
	}
}

// P1.2
func TestTextAndValue(t *testing.T) {
	for _, c := range []struct {
		n, style int
		s        string
	}{
		{0, Arabic, "0"}, {1, Arabic, "1"}, {9, Arabic, "9"}, {10, Arabic, "10"}, {3999, Arabic, "3999"}, {999999, Arabic, "999999"},
		{0, Roman, "0"}, {1, Roman, "i"}, {2, Roman, "ii"}, {3, Roman, "iii"}, {4, Roman, "iv"}, {5, Roman, "v"},
		{6, Roman, "vi"}, {8, Roman, "viii"}, {9, Roman, "ix"}, {10, Roman, "x"}, {39, Roman, "xxxix"},
		{40, Roman, "xl"}, {49, Roman, "xlix"}, {50, Roman, "l"}, {90, Roman, "xc"}, {99, Roman, "xcix"}, {100, Roman, "c"},
		{400, Roman, "cd"}, {444, Roman, "cdxliv"}, {500, Roman, "d"}, {900, Roman, "cm"}, {999, Roman, "cmxcix"}, {1000, Roman, "m"},
		{1994, Roman, "mcmxciv"}, {3888, Roman, "mmmdccclxxxviii"}, {3999, Roman, "mmmcmxcix"},
		{4000, Roman, "4000"}, {4001, Roman, "4001"}, {999999, Roman, "999999"},
		{0, Upper, "0"}, {1, Upper, "I"}, {4, Upper, "IV"}, {1994, Upper, "MCMXCIV"}, {3999, Upper, "MMMCMXCIX"},
		{4000, Upper, "4000"}, {999999, Upper, "999999"},
		{0, Letters, "0"}, {1, Letters, "a"}, {2, Letters, "b"}, {26, Letters, "z"}, {27, Letters, "aa"}, {28, Letters, "ab"},
		{52, Letters, "az"}, {53, Letters, "ba"}, {702, Letters, "zz"}, {703, Letters, "aaa"}, {3999, Letters, "ewu"},
		{4000, Letters, "ewv"}, {18278, Letters, "zzz"}, {18279, Letters, "aaaa"}, {475254, Letters, "zzzz"},
		{475255, Letters, "aaaaa"}, {999999, Letters, "bdwgm"},
		{0, Styles, "0"}, {7, Styles, "7"}, {4000, -1, "4000"}, {999999, 9, "999999"}, {4, math.MinInt, "4"}, {4, math.MaxInt, "4"},
	} {
		if s := Text(c.n, c.style); s != c.s {
			t.Errorf("Text(%d, %d) = %q, not %q", c.n, c.style, s, c.s)
		}
		if n, e := Value(c.s, c.style); n != c.n || e != api.OK {
			t.Errorf("Value(%q, %d) = %d, %d, not %d", c.s, c.style, n, e, c.n)
		}
	}
}

// P1.2: what is no counter is cut first.
func TestTextIsOfCut(t *testing.T) {
	for _, style := range styles {
		for _, n := range []int{-1, -1000000, math.MinInt} {
			if s := Text(n, style); s != "0" {
				t.Errorf("Text(%d, %d) = %q, not 0", n, style, s)
			}
		}
		last := "999999"
		if style == Letters {
			last = "bdwgm"
		}
		for _, n := range []int{1000000, 1 << 32, math.MaxInt} {
			if s := Text(n, style); s != last {
				t.Errorf("Text(%d, %d) = %q, not %q", n, style, s, last)
			}
		}
	}
}

// P1.2: wrong inputs.
func TestValueOfNoText(t *testing.T) {
	noStyles := []string{"", " ", "-1", "+1", "-0", "+0", "00", "01", "007", "1000000", "1000001", "9999999", "1 ", " 1", "1\n", "1.0", "1e3", "1_000", "0x1", "0b1",
		"A", "Z", "a1", "1a", "iv1", "1iv", "i v", "i\x00", "\x00", "\xff", "\u00e9", "\u0661", "\uff11", "\u2160", "\u212a", "\u0130", "/", ":", "`", "{",
		"18446744073709551616", "18446744073709551617", "9223372036854775808"}
	only := map[int][]string{
		Arabic: {"a", "aa", "i", "iv", "IV", "x"},
		Roman: {"1", "4", "10", "3999", "iiii", "vv", "vx", "iix", "iiv", "ivi", "ixi", "ixv", "viv", "vix", "xxxx", "xlx", "xcx", "xcl", "ll", "lc", "lxl", "il", "ic", "im",
			"xd", "xm", "cccc", "cdc", "cmc", "cmd", "dd", "dm", "dcd", "mmmm", "mmmmcmxcix", "IV", "I", "Iv", "iV", "a", "b", "z", "mmmj"},
		Upper:   {"1", "4", "10", "3999", "IIII", "VX", "IIX", "MMMM", "iv", "i", "iV", "Iv", "a", "B", "MMMJ"},
		Letters: {"1", "7", "10", "26", "999999", "IV", "AA", "aA", "Aa", "a0", "0a", "zzzzz", "bdwgn", "bdwha", "aaaaaa", "a b"},
		Styles:  {"a", "i", "I"}, -1: {"a", "i", "I"}, 9: {"a", "i", "I"},
	}
	for _, style := range styles {
		for _, s := range append(noStyles, only[style]...) {
			if n, e := Value(s, style); n != 0 || e != api.ErrForm {
				t.Errorf("Value(%q, %d) = %d, %d, not ErrForm", s, style, n, e)
			}
		}
	}
}

// P1.2, R1: a long text wraps nothing round, and the call ends.
func TestValueOfLongTexts(t *testing.T) {
	for _, sign := range []string{"0", "1", "9", "i", "m", "I", "M", "a", "z", "cm", "CM", "4294967296"} {
		for _, times := range []int{20, 64, 256, 100000} {
			s := strings.Repeat(sign, times)
			for _, style := range styles {
				if n, e := Value(s, style); n != 0 || e != api.ErrForm {
					t.Errorf("Value(%q %d times, %d) = %d, %d, not ErrForm", sign, times, style, n, e)
				}
			}
		}
	}
}

// romanOf writes each decimal place by itself: another way than the one that is tested.
func romanOf(n int) string {
	places := [4][10]string{
		{"", "i", "ii", "iii", "iv", "v", "vi", "vii", "viii", "ix"},
		{"", "x", "xx", "xxx", "xl", "l", "lx", "lxx", "lxxx", "xc"},
		{"", "c", "cc", "ccc", "cd", "d", "dc", "dcc", "dccc", "cm"},
		{"", "m", "mm", "mmm"},
	}
	return places[3][n/1000] + places[2][n/100%10] + places[1][n/10%10] + places[0][n%10]
}

// nextLetters goes on by one, as a counter of wheels does.
func nextLetters(s string) string {
	b := []byte(s)
	for i := len(b) - 1; i >= 0; i-- {
		if b[i] < 'z' {
			b[i]++
			return string(b)
		}
		b[i] = 'a'
	}
	return "a" + string(b)
}

// textsOf are the texts of all counters, made another way than the one that is tested.
func textsOf(style int) []string {
	l := make([]string, 1000000)
	letters := ""
	for n := range l {
		l[n] = strconv.Itoa(n)
		switch {
		case n == 0:
		case style == Roman && n <= 3999:
			l[n] = romanOf(n)
		case style == Upper && n <= 3999:
			l[n] = strings.ToUpper(romanOf(n))
		case style == Letters:
			letters = nextLetters(letters)
			l[n] = letters
		}
	}
	return l
}

// P1.2, P1.3: of every counter, in every style, its text, and back; and no text twice.
func TestAllCounters(t *testing.T) {
	for _, style := range []int{Arabic, Roman, Upper, Letters, Styles, -1} {
		seen := make(map[string]bool, 1000000)
		for n, want := range textsOf(style) {
			s := Text(n, style)
			if s != want {
				t.Fatalf("Text(%d, %d) = %q, not %q", n, style, s, want)
			}
			if v, e := Value(s, style); v != n || e != api.OK {
				t.Fatalf("Value(%q, %d) = %d, %d, not %d", s, style, v, e, n)
			}
			if seen[s] {
				t.Fatalf("Text(%d, %d) = %q, as of another counter", n, style, s)
			}
			seen[s] = true
		}
	}
}

// each calls f with s, and with all that begin with it, go on in these signs, and have at most so many bytes.
func each(s, signs string, most int, f func(string)) {
	f(s)
	if len(s) == most {
		return
	}
	for i := range len(signs) {
		each(s+signs[i:i+1], signs, most, f)
	}
}

// P1.2: of every short text of these signs, its counter, or none.
func TestAllShortTexts(t *testing.T) {
	signs := map[int][]string{Arabic: {"019a-"}, Roman: {"ivxlcdm", "ivI04"}, Upper: {"IVXLCDM", "IVi04"}, Letters: {"abyz0A", "abcdwgmn"}, Styles: {"019a-"}}
	for style, sets := range signs {
		want := map[string]int{}
		for n, s := range textsOf(style) {
			want[s] = n
		}
		for _, set := range sets {
			each("", set, 6, func(s string) {
				n, e := Value(s, style)
				if w, ok := want[s]; ok && (n != w || e != api.OK) {
					t.Fatalf("Value(%q, %d) = %d, %d, not %d", s, style, n, e, w)
				} else if !ok && (n != 0 || e != api.ErrForm) {
					t.Fatalf("Value(%q, %d) = %d, %d, not ErrForm", s, style, n, e)
				}
			})
		}
	}
}
