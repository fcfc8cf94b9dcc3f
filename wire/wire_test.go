package wire

import (
	"errors"
	"math"
	"math/rand"
	"slices"
	"strconv"
	"strings"
	"testing"

	"stet/api"
)

// million is one byte more than a text may have.
var million = strings.Repeat("7:,", 333333) + "x"

// wantGet tells Get's answer by the run of digits that stands at the place, not byte by byte.
func wantGet(s string, at, most int) (string, int, api.Errno) {
	if at < 0 || at > len(s) {
		return "", 0, api.ErrArg
	}
	rest := s[at:]
	behind := strings.TrimLeft(rest, "0123456789")
	digits := strings.TrimSuffix(rest, behind)
	switch {
	case len(digits) > 1 && digits[0] == '0':
		return "", 0, api.ErrForm
	case len(digits) > 6:
		return "", 0, api.ErrBig
	case behind == "":
		return "", 0, api.ErrShort
	case digits == "" || behind[0] != ':':
		return "", 0, api.ErrForm
	}
	n, _ := strconv.Atoi(digits)
	body := behind[1:]
	switch {
	case most < 0 && n > 0 || most >= 0 && n > most:
		return "", 0, api.ErrBig
	case len(body) <= n:
		return "", 0, api.ErrShort
	case !strings.HasPrefix(body[n:], ","):
		return "", 0, api.ErrForm
	}
	return body[:n], at + len(digits) + 1 + n + 1, api.OK
}

// wantAll goes on with what is left, not with a place.
func wantAll(s string) ([]string, api.Errno) {
	var l []string
	for s != "" {
		text, to, e := wantGet(s, 0, math.MaxInt)
		if e != api.OK {
			return nil, e
		}
		l = append(l, text)
		s = s[to:]
	}
	return l, api.OK
}

func nameRight(s string) bool {
	return len(s) >= 1 && len(s) <= 24 && strings.Trim(s, "abcdefghijklmnopqrstuvwxyz0123456789-.") == ""
}

func wantParse(s string) ([]api.File, api.Errno) {
	texts, e := wantAll(s)
	if e != api.OK {
		return nil, e
	}
	if len(texts)%2 == 1 || len(texts) > 64 {
		return nil, api.ErrForm
	}
	var l []api.File
	for pair := range slices.Chunk(texts, 2) {
		if !nameRight(pair[0]) || len(pair[1]) > 4000 {
			return nil, api.ErrForm
		}
		if len(l) > 0 && pair[0] <= l[len(l)-1].Name {
			return nil, api.ErrForm
		}
		l = append(l, api.File{Name: pair[0], Text: pair[1]})
	}
	return l, api.OK
}

func short(s string) string {
	if len(s) > 60 {
		return s[:60] + "..."
	}
	return s
}

func checkGet(t *testing.T, s string, at, most int) {
	t.Helper()
	text, to, e := Get(s, at, most)
	wantText, wantTo, wantE := wantGet(s, at, most)
	if text != wantText || to != wantTo || e != wantE {
		t.Fatalf("Get(%q, %d, %d) = %q, %d, %d; want %q, %d, %d", short(s), at, most, short(text), to, e, short(wantText), wantTo, wantE)
	}
}

func checkAll(t *testing.T, s string) {
	t.Helper()
	l, e := All(s)
	want, wantE := wantAll(s)
	if e != wantE || !slices.Equal(l, want) {
		t.Fatalf("All(%q) = %d texts, %d; want %d texts, %d", short(s), len(l), e, len(want), wantE)
	}
}

func checkParse(t *testing.T, s string) {
	t.Helper()
	l, e := Parse(s)
	want, wantE := wantParse(s)
	if e != wantE || !slices.Equal(l, want) {
		t.Fatalf("Parse(%q) = %d files, %d; want %d files, %d", short(s), len(l), e, len(want), wantE)
	}
}

// words calls f with each text of at most n bytes of an alphabet.
func words(alphabet string, n int, f func(string)) {
	f("")
	last := []string{""}
	for range n {
		var next []string
		for _, s := range last {
			for i := range len(alphabet) {
				next = append(next, s+alphabet[i:i+1])
			}
		}
		for _, s := range next {
			f(s)
		}
		last = next
	}
}

// many is a map of n files.
func many(n int) []api.File {
	var l []api.File
	for i := range n {
		l = append(l, api.File{Name: "f" + strconv.Itoa(100+i), Text: strconv.Itoa(i)})
	}
	return l
}

// bytesOf tells a list's bytes without the package's own means.
func bytesOf(texts ...string) string {
	s := ""
	for _, x := range texts {
		s += strconv.Itoa(len(x)) + ":" + x + ","
	}
	return s
}

// P3.1
func TestPut(t *testing.T) {
	for _, c := range []struct{ s, want string }{
		{"hello", "5:hello,"}, {"", "0:,"}, {"a", "1:a,"}, {",", "1:,,"}, {":", "1::,"}, {"0", "1:0,"}, {"\x00\xff", "2:\x00\xff,"},
		{"é", "2:é,"}, {"123456789", "9:123456789,"}, {"1234567890", "10:1234567890,"}, {"5:hello,", "8:5:hello,,"}, {"\n", "1:\n,"},
	} {
		if s := Put(c.s); s != c.want {
			t.Errorf("Put(%q) = %q", c.s, s)
		}
	}
	for _, n := range []string{"0", "1", "9", "10", "99", "100", "999", "1000", "9999", "10000", "99999", "100000", "999998", "999999"} {
		k, _ := strconv.Atoi(n)
		if s := Put(million[:k]); s != n+":"+million[:k]+"," {
			t.Errorf("Put of %s bytes: %q", n, short(s))
		}
	}
}

// P3.2
func TestGetTells(t *testing.T) {
	for _, c := range []struct {
		s        string
		at, most int
		text     string
		to       int
		e        api.Errno
	}{
		{"x5:hello,", 1, 5, "hello", 9, api.OK},
		{"5:hello,", 0, 5, "hello", 8, api.OK},
		{"5:hello,", 0, math.MaxInt, "hello", 8, api.OK},
		{"5:hello,rest", 0, 6, "hello", 8, api.OK},
		{"0:,", 0, 0, "", 3, api.OK},
		{"0:,", 0, -1, "", 3, api.OK},
		{"0:,", 0, math.MinInt, "", 3, api.OK},
		{"1:,,", 0, 1, ",", 4, api.OK},
		{"2::,,", 0, 2, ":,", 5, api.OK},
		{"10:0123456789,", 0, 10, "0123456789", 14, api.OK},
		{"3:\x00\xff\n,", 0, 3, "\x00\xff\n", 6, api.OK},
		{"2:é,", 0, 2, "é", 5, api.OK},
		// A place that is none is told ahead of all else.
		{"", -1, 0, "", 0, api.ErrArg},
		{"", 1, 0, "", 0, api.ErrArg},
		{"0:,", -1, 0, "", 0, api.ErrArg},
		{"0:,", 4, 0, "", 0, api.ErrArg},
		{"0:,", math.MaxInt, 0, "", 0, api.ErrArg},
		{"0:,", math.MinInt, 0, "", 0, api.ErrArg},
		// The bytes end.
		{"", 0, 0, "", 0, api.ErrShort},
		{"0:,", 3, 0, "", 0, api.ErrShort},
		{"0", 0, 0, "", 0, api.ErrShort},
		{"0:", 0, 0, "", 0, api.ErrShort},
		{"12", 0, 0, "", 0, api.ErrShort},
		{"999999", 0, 0, "", 0, api.ErrShort},
		{"5:hello", 0, 5, "", 0, api.ErrShort},
		{"5:hell,", 0, 5, "", 0, api.ErrShort},
		{"5:", 0, 5, "", 0, api.ErrShort},
		// No number.
		{":", 0, 0, "", 0, api.ErrForm},
		{":,", 0, 0, "", 0, api.ErrForm},
		{"0:,", 1, 0, "", 0, api.ErrForm},
		{"0:,", 2, 0, "", 0, api.ErrForm},
		{"a", 0, 0, "", 0, api.ErrForm},
		{"5a:hello,", 0, 9, "", 0, api.ErrForm},
		{"5,hello,", 0, 9, "", 0, api.ErrForm},
		{" 5:hello,", 0, 9, "", 0, api.ErrForm},
		{"+5:hello,", 0, 9, "", 0, api.ErrForm},
		{"-0:,", 0, 9, "", 0, api.ErrForm},
		{"5 :hello,", 0, 9, "", 0, api.ErrForm},
		{"/:,", 0, 9, "", 0, api.ErrForm},
		{";:,", 0, 9, "", 0, api.ErrForm},
		{"\u0665:hello,", 0, 9, "", 0, api.ErrForm},
		{"0a", 0, 9, "", 0, api.ErrForm},
		// A 0 that is the first digit is the last one too.
		{"00", 0, 9, "", 0, api.ErrForm},
		{"05", 0, 9, "", 0, api.ErrForm},
		{"05:hello,", 0, 9, "", 0, api.ErrForm},
		{"01000000", 0, 9, "", 0, api.ErrForm},
		{"100:", 0, 100, "", 0, api.ErrShort},
		{"1005:hello,", 1, 9, "", 0, api.ErrForm},
		{"105:hello,", 2, 9, "hello", 10, api.OK},
		// A number beyond 999999, ahead of what is wrong behind it.
		{"1000000", 0, math.MaxInt, "", 0, api.ErrBig},
		{"1000000a", 0, math.MaxInt, "", 0, api.ErrBig},
		{"100000a", 0, math.MaxInt, "", 0, api.ErrForm},
		{"9999990", 0, math.MaxInt, "", 0, api.ErrBig},
		{"18446744073709551617:a,", 0, math.MaxInt, "", 0, api.ErrBig},
		// A number beyond most, ahead of bytes that lack.
		{"5:hello,", 0, 4, "", 0, api.ErrBig},
		{"5:hello.", 0, 4, "", 0, api.ErrBig},
		{"5:", 0, 4, "", 0, api.ErrBig},
		{"1:a,", 0, 0, "", 0, api.ErrBig},
		{"1:a,", 0, -1, "", 0, api.ErrBig},
		{"1:a,", 0, math.MinInt, "", 0, api.ErrBig},
		{"5", 0, 4, "", 0, api.ErrShort},
		{"5x", 0, 4, "", 0, api.ErrForm},
		// No comma.
		{"5:hello.", 0, 5, "", 0, api.ErrForm},
		{"4:hello,", 0, 5, "", 0, api.ErrForm},
		{"0::", 0, 5, "", 0, api.ErrForm},
		{"0:0", 0, 5, "", 0, api.ErrForm},
	} {
		text, to, e := Get(c.s, c.at, c.most)
		if text != c.text || to != c.to || e != c.e {
			t.Errorf("Get(%q, %d, %d) = %q, %d, %d", c.s, c.at, c.most, text, to, e)
		}
		checkGet(t, c.s, c.at, c.most)
	}
}

// P3.2
func TestGetOfShortTexts(t *testing.T) {
	words("019:,a", 5, func(s string) {
		for at := -1; at <= len(s)+1; at++ {
			for most := -1; most <= 2; most++ {
				checkGet(t, s, at, most)
			}
		}
	})
	words("01:,", 7, func(s string) { checkGet(t, s, 0, 9) })
}

// P3.2: each byte, in each place of the bytes.
func TestGetOfEachByte(t *testing.T) {
	for c := range 256 {
		for _, good := range []string{"12:hello, world,3:abc,", "0:,0:,", "3:1:2,", "1:a,"} {
			for i := range good {
				b := []byte(good)
				b[i] = byte(c)
				checkGet(t, string(b), 0, 99)
				checkGet(t, "1"+string(b), 1, 99)
				checkAll(t, string(b))
				checkParse(t, string(b))
			}
		}
	}
}

// P3.2
func TestGetAtTheNumbersEnd(t *testing.T) {
	for _, n := range []int{99999, 100000, 999998, 999999} {
		s := bytesOf(million[:n])
		for _, most := range []int{n - 1, n, n + 1, 999999, 1000000, math.MaxInt, 0, -1} {
			checkGet(t, s, 0, most)
			checkGet(t, s[:len(s)-1], 0, most)
			checkGet(t, s[:len(s)-1]+";", 0, most)
			checkGet(t, s[:len(s)-2]+",", 0, most)
		}
		if text, to, e := Get(s, 0, n); text != million[:n] || to != len(s) || e != api.OK {
			t.Errorf("Get of %d bytes: %d, %d", n, to, e)
		}
	}
	s := "1000000:" + million + ","
	if text, to, e := Get(s, 0, math.MaxInt); text != "" || to != 0 || e != api.ErrBig {
		t.Errorf("Get of 1000000 bytes: %d, %d", to, e)
	}
	for n := 1; n <= 40; n++ {
		for _, digit := range []string{"0", "1", "4", "9"} {
			s := strings.Repeat(digit, n)
			for _, end := range []string{"", ":", ":,", "a"} {
				checkGet(t, s+end, 0, math.MaxInt)
				checkGet(t, "1"+s+end, 0, 0)
			}
		}
	}
}

// P3.2: bytes that are cut off anywhere are too short.
func TestGetOfWhatIsCutOff(t *testing.T) {
	for _, text := range []string{"", "a", ",", "hello", "0:,", "1:,,", strings.Repeat(",", 120)} {
		s := bytesOf(text)
		for cut := range len(s) {
			if got, to, e := Get("9"+s[:cut], 1, len(text)); got != "" || to != 0 || e != api.ErrShort {
				t.Errorf("Get of %q = %q, %d, %d", s[:cut], got, to, e)
			}
		}
	}
}

// P3.3
func TestAllTells(t *testing.T) {
	for _, c := range []struct {
		s    string
		want []string
		e    api.Errno
	}{
		{"", nil, api.OK},
		{"0:,", []string{""}, api.OK},
		{"0:,0:,0:,", []string{"", "", ""}, api.OK},
		{"0:,2:ab,", []string{"", "ab"}, api.OK},
		{"3:b.c,1:a,1:a,", []string{"b.c", "a", "a"}, api.OK},
		{"8:5:hello,,", []string{"5:hello,"}, api.OK},
		{"1:a,x", nil, api.ErrForm},
		{"1:a,,", nil, api.ErrForm},
		{"1:a,1", nil, api.ErrShort},
		{"1:a,1:b", nil, api.ErrShort},
		{"1:a,2:b,", nil, api.ErrShort},
		{"1:a,00:,", nil, api.ErrForm},
		{"1:a,1000000:", nil, api.ErrBig},
		{"1:a,1:b.1000000:", nil, api.ErrForm},
		{"1000000:x", nil, api.ErrBig},
		{"x1000000:", nil, api.ErrForm},
		{" ", nil, api.ErrForm},
		{"1:a, 1:b,", nil, api.ErrForm},
		{"1:a,\n", nil, api.ErrForm},
	} {
		l, e := All(c.s)
		if e != c.e || !slices.Equal(l, c.want) {
			t.Errorf("All(%q) = %q, %d", c.s, l, e)
		}
		checkAll(t, c.s)
	}
	words("01:,a", 7, func(s string) { checkAll(t, s) })
}

// P3.3
func TestAllOfLongTexts(t *testing.T) {
	checkAll(t, bytesOf(million[:999999]))
	checkAll(t, bytesOf("a", million[:999999], "", million[:100000]))
	checkAll(t, bytesOf(million))
	l, e := All(bytesOf("a", million[:999999]))
	if e != api.OK || len(l) != 2 || l[1] != million[:999999] {
		t.Errorf("All of 999999 bytes: %d texts, %d", len(l), e)
	}
	if l, e := All(bytesOf("a", million)); e != api.ErrBig || len(l) != 0 {
		t.Errorf("All of 1000000 bytes: %d texts, %d", len(l), e)
	}
	const n = 200000
	l, e = All(strings.Repeat("0:,", n))
	if e != api.OK || len(l) != n {
		t.Errorf("All of %d texts: %d, %d", n, len(l), e)
	}
	if l, e := All(strings.Repeat("0:,", n) + "0"); e != api.ErrShort || len(l) != 0 {
		t.Errorf("All of %d texts, and a piece: %d, %d", n, len(l), e)
	}
}

// P3.4
func TestFiles(t *testing.T) {
	for _, c := range []struct {
		l    []api.File
		want string
	}{
		{nil, ""},
		{[]api.File{}, ""},
		{[]api.File{{Name: "a"}}, "1:a,0:,"},
		{[]api.File{{Name: "a", Text: "x"}, {Name: "b.c"}}, "1:a,1:x,3:b.c,0:,"},
		{[]api.File{{Name: "1", Text: "1:1,"}, {Name: "2", Text: "\x00\xff"}}, "1:1,4:1:1,,1:2,2:\x00\xff,"},
	} {
		if s := Files(c.l); s != c.want {
			t.Errorf("Files(%q) = %q", c.l, s)
		}
	}
}

// P3.4
func TestParseTells(t *testing.T) {
	name, text := strings.Repeat("n", 24), strings.Repeat("t", 4000)
	for _, c := range []struct {
		s    string
		want []api.File
		e    api.Errno
	}{
		{"", nil, api.OK},
		{"1:a,0:,", []api.File{{Name: "a"}}, api.OK},
		{"1:a,1:x,3:b.c,0:,", []api.File{{Name: "a", Text: "x"}, {Name: "b.c"}}, api.OK},
		{bytesOf(name, text), []api.File{{Name: name, Text: text}}, api.OK},
		// All's errors come first.
		{"1:a,1:x,1:b", nil, api.ErrShort},
		{"1:A,0:,1", nil, api.ErrShort},
		{"1:a,1", nil, api.ErrShort},
		{"1:A,0:,1000000:", nil, api.ErrBig},
		{"1:a,1000000:", nil, api.ErrBig},
		{"1:a,0:,x", nil, api.ErrForm},
		// Texts that are not two for each file.
		{"0:,", nil, api.ErrForm},
		{"1:a,", nil, api.ErrForm},
		{"1:a,0:,1:b,", nil, api.ErrForm},
		// Files that do not rise.
		{"1:b,0:,1:a,0:,", nil, api.ErrForm},
		{"1:a,0:,1:a,0:,", nil, api.ErrForm},
		{"1:a,1:x,1:a,1:y,", nil, api.ErrForm},
		{"1:a,0:,1:c,0:,1:b,0:,", nil, api.ErrForm},
		{"2:a0,0:,2:a.,0:,", nil, api.ErrForm},
		// Names that are none.
		{"0:,0:,", nil, api.ErrForm},
		{"1:A,0:,", nil, api.ErrForm},
		{"1:a,0:,3:b c,0:,", nil, api.ErrForm},
		{bytesOf(name+"n", ""), nil, api.ErrForm},
		// Texts that are too long.
		{bytesOf("a", text+"t"), nil, api.ErrForm},
		{bytesOf("a", "", "b", text+"t"), nil, api.ErrForm},
		{bytesOf("a", million[:999999]), nil, api.ErrForm},
	} {
		l, e := Parse(c.s)
		if e != c.e || !slices.Equal(l, c.want) {
			t.Errorf("Parse(%q) = %q, %d", short(c.s), l, e)
		}
		checkParse(t, c.s)
	}
}

// P3.4, P3.5
func TestMapsOfAnySize(t *testing.T) {
	for n := range 40 {
		l := many(n)
		s := Files(l)
		got, e := Parse(s)
		if n <= api.MaxFiles && (e != api.OK || !slices.Equal(got, l)) {
			t.Errorf("Parse of %d files: %d, %d", n, len(got), e)
		}
		if n > api.MaxFiles && (e != api.ErrForm || len(got) != 0) {
			t.Errorf("Parse of %d files: %d, %d", n, len(got), e)
		}
		checkParse(t, s)
	}
	var l []api.File
	for i := range api.MaxFiles {
		l = append(l, api.File{Name: strings.Repeat("n", 22) + strconv.Itoa(10+i), Text: strings.Repeat(",", 4000)})
	}
	if got, e := Parse(Files(l)); e != api.OK || !slices.Equal(got, l) {
		t.Errorf("Parse of the greatest map: %d, %d", len(got), e)
	}
}

// P3.4
func TestParseOfShortTexts(t *testing.T) {
	words("01:,a", 7, func(s string) { checkParse(t, s) })
	var forms []string
	words("ab", 2, func(s string) { forms = append(forms, bytesOf(s)) })
	for _, a := range forms {
		for _, b := range forms {
			for _, c := range forms {
				for _, d := range forms {
					checkParse(t, a+b+c+d)
				}
			}
		}
	}
}

// P3.4: one byte of a map's bytes more, less, or another one.
func TestParseOfDamagedMaps(t *testing.T) {
	good := Files([]api.File{{Name: "a", Text: "1:a,"}, {Name: "b", Text: ""}, {Name: "c", Text: "0123456789"}})
	for i := range len(good) {
		checkParse(t, good[:i])
		checkParse(t, good[i:])
		checkParse(t, good[:i]+good[i+1:])
		for c := range 256 {
			b := string([]byte{byte(c)})
			checkParse(t, good[:i]+b+good[i:])
			checkParse(t, good[:i]+b+good[i+1:])
		}
	}
}

// P3.5
func TestWhatIsPutIsGot(t *testing.T) {
	around := []string{"", "0", "9", ":", ",", "x", "0:,", "1:", "\x00", "5:hello,", "999999"}
	check := func(s string) {
		for _, ahead := range around {
			for _, behind := range around {
				text, to, e := Get(ahead+Put(s)+behind, len(ahead), len(s))
				if text != s || to != len(ahead)+len(Put(s)) || e != api.OK {
					t.Fatalf("Get of %q, %q, %q = %q, %d, %d", ahead, s, behind, text, to, e)
				}
			}
		}
	}
	words("0:,a", 3, check)
	for n := range 130 {
		check(million[:n])
	}
	for _, n := range []int{999, 1000, 9999, 10000, 99999, 100000, 999999} {
		if text, to, e := Get(Put(million[:n]), 0, n); text != million[:n] || to != len(Put(million[:n])) || e != api.OK {
			t.Errorf("Get of %d bytes: %d, %d", n, to, e)
		}
	}
}

// P3.5
func TestNoTextBeginsAnother(t *testing.T) {
	var texts []string
	words("01:,", 4, func(s string) { texts = append(texts, s) })
	for n := range 120 {
		texts = append(texts, strings.Repeat("a", n+5))
	}
	for _, a := range texts {
		for _, b := range texts {
			if a != b && strings.HasPrefix(Put(b), Put(a)) {
				t.Fatalf("Put(%q) begins Put(%q)", a, b)
			}
		}
	}
}

// P3.5: bytes are one map, or none.
func TestBytesAreOneMap(t *testing.T) {
	seen := 0
	check := func(s string) {
		l, e := Parse(s)
		if e != api.OK {
			return
		}
		seen++
		if Files(l) != s {
			t.Fatalf("Parse(%q) = %q, whose bytes are %q", s, l, Files(l))
		}
	}
	words("01:,a", 8, check)
	r := rand.New(rand.NewSource(3))
	for range 20000 {
		b := []byte(Files(many(1 + r.Intn(3))))
		b[r.Intn(len(b))] = "0123456789:,ab"[r.Intn(14)]
		check(string(b))
	}
	if seen < 1000 {
		t.Errorf("only %d maps", seen)
	}
}

// P3.5
func TestTextsAndMapsComeBack(t *testing.T) {
	r := rand.New(rand.NewSource(5))
	random := func(most int) string {
		b := make([]byte, r.Intn(most+1))
		r.Read(b)
		return string(b)
	}
	for range 500 {
		var texts []string
		for range r.Intn(20) {
			texts = append(texts, random(150))
		}
		if l, e := All(bytesOf(texts...)); e != api.OK || !slices.Equal(l, texts) {
			t.Fatalf("All of %q = %q, %d", texts, l, e)
		}
		l := many(r.Intn(api.MaxFiles + 1))
		for i := range l {
			l[i].Text = random(api.MaxText)
		}
		if got, e := Parse(Files(l)); e != api.OK || !slices.Equal(got, l) {
			t.Fatalf("Parse of %q = %q, %d", l, got, e)
		}
	}
}

// R4
func TestMemory(t *testing.T) {
	room := append(many(9), api.File{Name: "room", Text: "room"})
	before := slices.Clone(room)
	Files(room[:9])
	if !slices.Equal(room, before) {
		t.Error("Files changed its list, or the room behind it")
	}
	s := Files(many(9))
	one, _ := Parse(s)
	two, _ := Parse(s)
	for i := range one[:cap(one)] {
		one[:cap(one)][i] = api.File{Name: "spoilt"}
	}
	if !slices.Equal(two, many(9)) {
		t.Error("two answers of Parse share memory")
	}
	first, _ := All(s)
	second, _ := All(s)
	for i := range first[:cap(first)] {
		first[:cap(first)][i] = "spoilt"
	}
	if want, _ := wantAll(s); !slices.Equal(second, want) {
		t.Error("two answers of All share memory")
	}
}

// R5
func TestTheSameAgain(t *testing.T) {
	for _, s := range []string{"", "1:a,0:,", "1:a,", "1:a", "00:,", "1000000"} {
		for range 3 {
			checkGet(t, s, 0, 9)
			checkAll(t, s)
			checkParse(t, s)
		}
	}
}

// Ways: an error is of a type of its own, and wraps its number.
func TestFaultsWrapTheirNumbers(t *testing.T) {
	for _, c := range []struct {
		s  string
		at int
		e  api.Errno
	}{{"", 1, api.ErrArg}, {"9:", 0, api.ErrBig}, {"x", 0, api.ErrForm}, {"", 0, api.ErrShort}} {
		_, _, err := read(c.s, c.at, 3)
		var own fault
		if !errors.As(err, &own) || !errors.Is(err, c.e) || number(err) != c.e || err.Error() != "wire: error" {
			t.Errorf("read(%q, %d): %v", c.s, c.at, err)
		}
	}
	if number(nil) != api.OK {
		t.Error("no error has a number")
	}
}
