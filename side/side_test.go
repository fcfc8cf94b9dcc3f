package side_test

import (
	"fmt"
	"math"
	"slices"
	"strconv"
	"strings"
	"testing"

	"stet/api"
	"stet/side"
)

// text is a text with its length ahead, and net are texts one behind the other, told without the program's own means.
func text(s string) string { return strconv.Itoa(len(s)) + ":" + s + "," }

func net(texts ...string) string {
	s := ""
	for _, x := range texts {
		s += text(x)
	}
	return s
}

// record is one of these parts.
func record(parts ...string) string { return text(net(parts...)) }

// bytesOf are those that any side would have, whether it may be or not.
func bytesOf(x side.Side) string {
	var s strings.Builder
	for _, l := range x.Labels {
		s.WriteString(record("label", l.Key, l.Num, strconv.Itoa(l.Page)))
	}
	for _, h := range x.Heads {
		s.WriteString(record("head", strconv.Itoa(h.Level), h.Num, h.Title, strconv.Itoa(h.Page)))
	}
	for _, c := range x.Cites {
		s.WriteString(record("cite", c))
	}
	for _, b := range x.Bibs {
		s.WriteString(record("bib", b))
	}
	return s.String()
}

// same holds sides against each other; a nil list and an empty one are the same.
func same(x, y side.Side) bool {
	return slices.Equal(x.Labels, y.Labels) && slices.Equal(x.Heads, y.Heads) && slices.Equal(x.Cites, y.Cites) && slices.Equal(x.Bibs, y.Bibs)
}

func short(x any) string {
	s := fmt.Sprintf("%q", x)
	if len(s) > 300 {
		return s[:300] + "..."
	}
	return s
}

// checkMay tries a side of which it is known whether it may be: what Right, Encode and Decode tell follows from that.
func checkMay(t *testing.T, x side.Side, may bool) {
	t.Helper()
	s := bytesOf(x)
	if side.Right(x) != may {
		t.Fatalf("Right(%s) = %v", short(x), !may)
	}
	wantBytes, wantSide, wantE := s, x, api.OK
	if !may {
		wantBytes, wantSide, wantE = "", side.Side{}, api.ErrForm
	}
	if b, e := side.Encode(x); b != wantBytes || e != wantE {
		t.Fatalf("Encode(%s) = %s, %d; want %s, %d", short(x), short(b), e, short(wantBytes), wantE)
	}
	if y, e := side.Decode(s); !same(y, wantSide) || e != wantE {
		t.Fatalf("Decode(%s) = %s, %d; want %s, %d", short(s), short(y), e, short(wantSide), wantE)
	}
}

// checkBad tries bytes that are no side's.
func checkBad(t *testing.T, s string) {
	t.Helper()
	if x, e := side.Decode(s); !same(x, side.Side{}) || e != api.ErrForm {
		t.Errorf("Decode(%s) = %s, %d", short(s), short(x), e)
	}
}

// checkGood tries bytes that are this side's.
func checkGood(t *testing.T, s string, x side.Side) {
	t.Helper()
	if b, e := side.Encode(x); b != s || e != api.OK {
		t.Errorf("Encode(%s) = %s, %d; want %s", short(x), short(b), e, short(s))
	}
	if y, e := side.Decode(s); !same(y, x) || e != api.OK {
		t.Errorf("Decode(%s) = %s, %d; want %s", short(s), short(y), e, short(x))
	}
}

// names are n keys, each another one; labels and heads are n of these.
func names(n int) []string {
	var l []string
	for i := range n {
		l = append(l, "k"+strconv.Itoa(i))
	}
	return l
}

func labels(keys ...string) []side.Label {
	var l []side.Label
	for i, k := range keys {
		l = append(l, side.Label{Key: k, Num: strconv.Itoa(i), Page: i})
	}
	return l
}

func heads(titles ...string) []side.Head {
	var l []side.Head
	for i, s := range titles {
		l = append(l, side.Head{Level: 1 + i%2, Num: strconv.Itoa(i), Title: s, Page: i})
	}
	return l
}

// whole is a side with something of each kind.
func whole() side.Side {
	return side.Side{
		Labels: []side.Label{{Key: "k", Num: "1.2", Page: 3}, {Key: "two words"}},
		Heads:  []side.Head{{Level: 1, Num: "1", Title: "A", Page: 1}, {Level: 2, Num: "1.1", Title: "B c", Page: 12}},
		Cites:  []string{"x", "y"},
		Bibs:   []string{"refs"},
	}
}

// keyed are the sides that have these keys in one of the four places where keys stand.
func keyed(keys ...string) []side.Side {
	return []side.Side{{Labels: labels(keys...)}, {Heads: heads(keys...)}, {Cites: keys}, {Bibs: keys}}
}

// P10.1, R3: a side with nothing in it, its lists nil or empty.
func TestNothing(t *testing.T) {
	for _, x := range []side.Side{
		{},
		{Labels: []side.Label{}, Heads: []side.Head{}, Cites: []string{}, Bibs: []string{}},
		{Labels: make([]side.Label, 0, 9), Cites: make([]string, 0, 9)},
		{Heads: []side.Head{}, Bibs: make([]string, 0, 1)},
	} {
		checkMay(t, x, true)
		checkGood(t, "", x)
		if l, is := side.Find(x, ""); is || l != (side.Label{}) {
			t.Errorf("Find: %v, %v", l, is)
		}
	}
	// Lists that are empty make no difference beside others.
	some := side.Side{Heads: heads("A"), Labels: []side.Label{}, Cites: make([]string, 0, 3)}
	checkGood(t, bytesOf(side.Side{Heads: heads("A")}), some)
}

// P10.1: how many there may be of each.
func TestHowMany(t *testing.T) {
	for _, n := range []int{1, 2, 3, 7, 8, 9, 10, 50, 99, 100, 101, 102, 200, 300} {
		l := names(n)
		checkMay(t, side.Side{Labels: labels(l...)}, n <= 100)
		checkMay(t, side.Side{Heads: heads(l...)}, n <= 100)
		checkMay(t, side.Side{Cites: l}, n <= 100)
		checkMay(t, side.Side{Bibs: l}, n <= 8)
	}
	full := func(a, b, c, d int) side.Side {
		return side.Side{Labels: labels(names(a)...), Heads: heads(names(b)...), Cites: names(c), Bibs: names(d)}
	}
	checkMay(t, full(100, 100, 100, 8), true)
	checkMay(t, full(101, 100, 100, 8), false)
	checkMay(t, full(100, 101, 100, 8), false)
	checkMay(t, full(100, 100, 101, 8), false)
	checkMay(t, full(100, 100, 100, 9), false)
}

// P10.1: what is a key, in each place where one stands.
func TestKeys(t *testing.T) {
	long := strings.Repeat("x", 60)
	for _, c := range []struct {
		key string
		is  bool
	}{
		{"", false}, {"a", true}, {long[:59], true}, {long, true}, {long + "x", false}, {long + long, false},
		{" ", false}, {"  ", false}, {" a", false}, {"a ", false}, {" a ", false}, {"  a", false}, {"a  ", false},
		{"a b", true}, {"a  b", false}, {"a   b", false}, {"a b c", true}, {"a b  c", false}, {"a  b c", false}, {"a b c ", false},
		{long[:58] + " x", true}, {long[:58] + "x ", false}, {" " + long[:59], false}, {long[:57] + "  x", false},
		{long[:59] + " x", false}, {long + " ", false}, {" " + long, false}, {strings.Repeat("a ", 29) + "ab", true}, {strings.Repeat(" ", 60), false},
		{"\t", true}, {"\n", true}, {"\ta", true}, {"a\t", true}, {"\na\n", true}, {"a\n\nb", true}, {"a\t\tb", true}, {"a \tb", true}, {"\t a", true}, {"a \n b", true}, {"a\n ", false}, {" \na", false},
		{"\x00", true}, {"\xff", true}, {"\xff \xff", true}, {"\xff  \xff", false}, {"\u00a0", true}, {"\u00a0\u00a0", true}, {"\u3000a", true}, {"\v\f\r", true},
		{"\\", true}, {"{}", true}, {"%", true}, {"#1", true}, {"a%b", true}, {"\\a b", true}, {",", true}, {":", true}, {"1:a,", true}, {"0:,", true}, {"label", true}, {"1:a, ", false},
		{strings.Repeat("é", 30), true}, {strings.Repeat("é", 30) + "a", false}, {strings.Repeat("é", 31), false}, {strings.Repeat("\xff", 60), true}, {strings.Repeat("\xff", 61), false},
	} {
		for _, x := range keyed(c.key) {
			checkMay(t, x, c.is)
		}
		for _, x := range slices.Concat(keyed("other", c.key), keyed(c.key, "other"), keyed("other", c.key, "one more")) {
			checkMay(t, x, c.is)
		}
	}
	// Each byte is one that a key may have, but a blank, where none may stand.
	for b := range 256 {
		s := string([]byte{byte(b)})
		for _, c := range []struct {
			key string
			is  bool
		}{
			{s, b != 32}, {s + s, b != 32}, {s + "a", b != 32}, {"a" + s, b != 32}, {"a" + s + "b", true}, {"a" + s + s + "b", b != 32}, {"a" + s + " b", b != 32}, {"a " + s + "b", b != 32}, {long[:59] + s, b != 32}, {long + s, false},
		} {
			for _, x := range keyed(c.key) {
				checkMay(t, x, c.is)
			}
		}
	}
}

// P10.1: a Num is any text of at most 40 bytes.
func TestNums(t *testing.T) {
	with := func(num string) []side.Side {
		return []side.Side{
			{Labels: []side.Label{{Key: "k", Num: num}}},
			{Labels: []side.Label{{Key: "j"}, {Key: "k", Num: num, Page: 7}, {Key: "l"}}},
			{Heads: []side.Head{{Level: 1, Num: num, Title: "A"}}},
			{Heads: []side.Head{{Level: 2, Title: "A"}, {Level: 1, Num: num, Title: "B", Page: 7}, {Level: 1, Title: "C"}}},
		}
	}
	for n := range 90 {
		for _, s := range []string{"1", " ", ",", "\x00"} {
			for _, x := range with(strings.Repeat(s, n)) {
				checkMay(t, x, n <= 40)
			}
		}
	}
	for b := range 256 {
		s := string([]byte{byte(b)})
		for _, num := range []string{s, s + s, "1" + s, s + ".1", strings.Repeat(s, 40)} {
			for _, x := range with(num) {
				checkMay(t, x, true)
			}
		}
	}
	for _, x := range slices.Concat(with(strings.Repeat("é", 20)), with("  "), with(" 1"), with("1:a,")) {
		checkMay(t, x, true)
	}
	for _, x := range with(strings.Repeat("é", 21)) {
		checkMay(t, x, false)
	}
	// Neither need be unlike the others.
	checkMay(t, side.Side{Labels: []side.Label{{Key: "a", Num: "1", Page: 1}, {Key: "b", Num: "1", Page: 1}}}, true)
}

// P10.1, R6: a Page is 0 to 999999.
func TestPages(t *testing.T) {
	for _, n := range []int{0, 1, 9, 10, 99, 12345, 100000, 999998, 999999, 1000000, 1000001, 9999999, -1, -2, -999999, math.MinInt, math.MinInt + 1, math.MaxInt, math.MaxInt32, math.MinInt32, 1 << 32, 1<<32 + 7, -1 << 32} {
		may := n >= 0 && n <= 999999
		checkMay(t, side.Side{Labels: []side.Label{{Key: "k", Page: n}}}, may)
		checkMay(t, side.Side{Labels: []side.Label{{Key: "j"}, {Key: "k", Num: "1", Page: n}, {Key: "l"}}}, may)
		checkMay(t, side.Side{Heads: []side.Head{{Level: 1, Title: "A", Page: n}}}, may)
		checkMay(t, side.Side{Heads: []side.Head{{Level: 2, Title: "A"}, {Level: 2, Title: "B", Page: n}, {Level: 1, Title: "C"}}}, may)
	}
}

// P10.1, R6: a Level is 1 or 2.
func TestLevels(t *testing.T) {
	for _, n := range []int{0, 1, 2, 3, 4, 10, 11, 12, 21, 999999, 1000000, 1000001, -1, -2, math.MinInt, math.MaxInt, 1<<32 + 1, 1<<32 + 2, 257} {
		may := n == 1 || n == 2
		checkMay(t, side.Side{Heads: []side.Head{{Level: n, Title: "A"}}}, may)
		checkMay(t, side.Side{Heads: []side.Head{{Level: 1, Title: "A"}, {Level: n, Num: "1.1", Title: "B", Page: 3}, {Level: 2, Title: "C"}}}, may)
	}
}

// P10.1: no Key, none of Cites, and none of Bibs is there twice; Titles may be.
func TestTwice(t *testing.T) {
	for _, c := range []struct {
		keys string
		is   bool
	}{
		{"a a", false}, {"a b", true}, {"a b a", false}, {"b a a", false}, {"a a b", false}, {"a a a", false}, {"a b c a", false}, {"a b c b", false}, {"a b c d", true},
		{"a A", true}, {"a aa", true}, {"a ab abc", true}, {"b a", true}, {"a b c d e f g h", true}, {"a b c d e f g a", false}, {"a b c d e f g g", false}, {"0 00 1 01", true},
	} {
		l := strings.Fields(c.keys)
		checkMay(t, side.Side{Labels: labels(l...)}, c.is)
		checkMay(t, side.Side{Cites: l}, c.is)
		checkMay(t, side.Side{Bibs: l}, c.is)
		checkMay(t, side.Side{Heads: heads(l...)}, true)
	}
	// Labels are not told apart by anything else.
	checkMay(t, side.Side{Labels: []side.Label{{Key: "a", Num: "1", Page: 1}, {Key: "a", Num: "2", Page: 2}}}, false)
	checkMay(t, side.Side{Heads: []side.Head{{Level: 1, Num: "1", Title: "A", Page: 1}, {Level: 1, Num: "1", Title: "A", Page: 1}}}, true)
	// The first one comes again wherever it may, and the last one, too.
	for n := 2; n <= 100; n++ {
		for _, from := range []int{0, (n - 1) / 2, n - 2} {
			l := names(n)
			l[n-1] = l[from]
			checkMay(t, side.Side{Labels: labels(l...)}, false)
			checkMay(t, side.Side{Cites: l}, false)
			checkMay(t, side.Side{Bibs: l}, false)
		}
	}
	// Lists don't count for each other.
	checkMay(t, side.Side{Labels: labels("a"), Heads: heads("a"), Cites: []string{"a"}, Bibs: []string{"a"}}, true)
	checkMay(t, side.Side{Labels: labels("a", "b"), Cites: []string{"b", "a"}, Bibs: []string{"a", "b"}}, true)
	checkMay(t, side.Side{Labels: labels("a", "b"), Cites: []string{"b", "a"}, Bibs: []string{"a", "b", "a"}}, false)
}

// P10.1: what is wrong with one list is so beside others, whichever it is.
func TestOneFault(t *testing.T) {
	for i, spoil := range []func(x *side.Side){
		func(x *side.Side) { x.Labels[1].Key = "" },
		func(x *side.Side) { x.Labels[1].Key = "k" },
		func(x *side.Side) { x.Labels[0].Num = strings.Repeat("1", 41) },
		func(x *side.Side) { x.Labels[1].Page = -1 },
		func(x *side.Side) { x.Heads[0].Level = 0 },
		func(x *side.Side) { x.Heads[1].Num = strings.Repeat("1", 41) },
		func(x *side.Side) { x.Heads[0].Title = "A " },
		func(x *side.Side) { x.Heads[1].Page = 1000000 },
		func(x *side.Side) { x.Cites[1] = "x" },
		func(x *side.Side) { x.Cites[0] = "x  x" },
		func(x *side.Side) { x.Bibs[0] = " refs" },
		func(x *side.Side) { x.Bibs = append(x.Bibs, "refs") },
	} {
		x := whole()
		checkMay(t, x, true)
		spoil(&x)
		if side.Right(x) {
			t.Errorf("fault %d", i)
		}
		checkMay(t, x, false)
	}
}

// P10.1: the bytes of each kind alone, of all in their order, and back again.
func TestBytes(t *testing.T) {
	for _, c := range []struct {
		x    side.Side
		want string
	}{
		{side.Side{Labels: []side.Label{{Key: "k", Num: "1.2", Page: 3}}}, "22:5:label,1:k,3:1.2,1:3,,"},
		{side.Side{Labels: []side.Label{{Key: "two words"}}}, "27:5:label,9:two words,0:,1:0,,"},
		{side.Side{Labels: []side.Label{{Key: ",", Num: ":", Page: 999999}}}, "25:5:label,1:,,1::,6:999999,,"},
		{side.Side{Heads: []side.Head{{Level: 1, Num: "1", Title: "A", Page: 1}}}, "23:4:head,1:1,1:1,1:A,1:1,,"},
		{side.Side{Heads: []side.Head{{Level: 2, Title: "\xff\n", Page: 10}}}, "24:4:head,1:2,0:,2:\xff\n,2:10,,"},
		{side.Side{Cites: []string{"x"}}, "11:4:cite,1:x,,"},
		{side.Side{Cites: []string{"y", "x"}}, "11:4:cite,1:y,,11:4:cite,1:x,,"},
		{side.Side{Bibs: []string{"refs"}}, "13:3:bib,4:refs,,"},
		{side.Side{Bibs: []string{"b", "a"}}, "10:3:bib,1:b,,10:3:bib,1:a,,"},
		{side.Side{Cites: []string{"cite"}, Bibs: []string{"bib"}}, "14:4:cite,4:cite,,12:3:bib,3:bib,,"},
		{whole(), "22:5:label,1:k,3:1.2,1:3,," + "27:5:label,9:two words,0:,1:0,," + "23:4:head,1:1,1:1,1:A,1:1,," + "28:4:head,1:2,3:1.1,3:B c,2:12,," + "11:4:cite,1:x,," + "11:4:cite,1:y,," + "13:3:bib,4:refs,,"},
	} {
		checkGood(t, c.want, c.x)
		checkMay(t, c.x, true)
	}
	// What stands in a list stays in its order, whichever it is.
	for _, l := range []string{"a b c", "c b a", "b c a", "c a b", "B a C", "10 9 1"} {
		keys := strings.Fields(l)
		for _, x := range keyed(keys...) {
			checkMay(t, x, true)
		}
	}
}

// P10.1: bytes that are no records.
func TestDecodeBytes(t *testing.T) {
	for _, s := range []string{
		"x", " ", "\n", "\x00", ",", ":", ":,", "0", "0:", "0:,", "00:,", "0:,0:,", "1:a,", "-1:a,", "4:cite,", "4:cite,1:x,", "label", "cite x", "11:4:cite,1:x,", "11:4:cite,1:x", "11:4:cite,1:x,.",
		"011:4:cite,1:x,,", "11:04:cite,1:x,,", "12:4:cite,01:x,,", "12:04:cite,1:x,,", "12:4:cite,1:x,,", "10:4:cite,1:x,,", "11:4:cite,2:x,,", "11:4:cite,0:x,,", "11:5:cite,1:x,,", "11:3:cite,1:x,,", "11:4;cite,1:x,,", "11:4:cite,1:x;,", "11:4:cite;1:x,,",
		"11:4:cite,1:x,,x", "11:4:cite,1:x,,,", "11:4:cite,1:x,,0:,", " 11:4:cite,1:x,,", "11:4:cite,1:x,,\n", "\n11:4:cite,1:x,,", "1:4:cite,1:x,,", "+11:4:cite,1:x,,", "x11:4:cite,1:x,,", "11 :4:cite,1:x,,", "11: 4:cite,1:x,,",
		"1000000:4:cite,1:x,,", "999999:4:cite,1:x,,", "18446744073709551627:4:cite,1:x,,", "9:4:cite,1:x,,", "99:4:cite,1:x,,", "11:1000000:cite,,", "16:999999:cite,1:x,,", "11:4:cite,1:x,", "15:11:4:cite,1:x,,,",
		"5:cite,,", "4:1:a,,", "7:4:cite,,", "3:0:,,", "1:,,", "3:abc,", "11:4cite,,1:x,", "7:4:cite:,", "12:4:cite,1:x,,,", "12: 4:cite,1:x,,", "12:4:cite,1:x, ,", "12:4:cite, 1:x,,",
	} {
		checkBad(t, s)
	}
	for _, x := range slices.Concat([]side.Side{whole()}, keyed("k")) {
		s := bytesOf(x)
		checkGood(t, s, x)
		// A byte less, and one more, at either end.
		checkBad(t, s[1:])
		checkBad(t, s[:len(s)-1])
		for b := range 256 {
			checkBad(t, s+string([]byte{byte(b)}))
			checkBad(t, string([]byte{byte(b)})+s)
		}
		// The whole of it within a text, and twice: but Heads may be there twice.
		checkBad(t, text(s))
		if y, e := side.Decode(s + s); (e == api.OK) != (len(x.Heads) == 1 && len(x.Cites) == 0) {
			t.Errorf("Decode(%q): %v, %d", s+s, y, e)
		}
	}
	// Cut anywhere, a side's bytes are a side's only where a record ends.
	s := bytesOf(whole())
	ends := []int{0, 26, 57, 84, 116, 131, 146, 163}
	for cut := range len(s) + 1 {
		x, e := side.Decode(s[:cut])
		y, f := side.Decode(s[cut:])
		if at := slices.Contains(ends, cut); at != (e == api.OK) || at != (f == api.OK) {
			t.Errorf("Decode cut at %d: %d, %d", cut, e, f)
		}
		if e != api.OK && !same(x, side.Side{}) || f != api.OK && !same(y, side.Side{}) {
			t.Errorf("Decode cut at %d: %v, %v", cut, x, y)
		}
	}
	if len(s) != ends[7] {
		t.Errorf("%d bytes", len(s))
	}
}

// P10.1: records of no kind, and with parts that are too few, too many, or others.
func TestDecodeRecords(t *testing.T) {
	label, head, cite, bib := []string{"label", "k", "1", "3"}, []string{"head", "1", "1", "A", "3"}, []string{"cite", "x"}, []string{"bib", "x"}
	for _, good := range [][]string{label, head, cite, bib} {
		s := record(good...)
		if _, e := side.Decode(s); e != api.OK {
			t.Fatalf("Decode(%q): %d", s, e)
		}
		for i := range len(good) + 1 {
			for _, more := range []string{"", "1", "x", good[0]} {
				checkBad(t, record(slices.Insert(slices.Clone(good), i, more)...))
			}
			if i < len(good) {
				checkBad(t, record(slices.Delete(slices.Clone(good), i, i+1)...))
			}
		}
		checkBad(t, record(append(slices.Clone(good), good...)...))
		checkBad(t, record(append(slices.Clone(good), good[1:]...)...))
		for _, word := range []string{"", "x", "Label", "LABEL", "labels", "labe", "label ", " label", "Head", "heads", "Cite", "cites", "cit", "bibs", "Bib", "bi", "bibitem", "1", "stet1", "\x00", "label\n"} {
			checkBad(t, record(append([]string{word}, good[1:]...)...))
		}
		// With the word of another kind.
		for _, other := range [][]string{label, head, cite, bib} {
			_, e := side.Decode(record(append([]string{other[0]}, good[1:]...)...))
			if (e == api.OK) != (len(other) == len(good)) {
				t.Errorf("%s with the word %s: %d", good[0], other[0], e)
			}
		}
		// What is wrong is so behind and ahead of others, too.
		for _, bad := range []string{text(""), record(""), record(good[0]), record(good[1:]...), record(append(slices.Clone(good), "")...), "x", text("x"), net(good...)} {
			checkBad(t, bad)
			checkBad(t, s+bad)
			checkBad(t, bad+s)
			checkBad(t, record("cite", "a")+bad+record("cite", "b"))
		}
	}
	// A part that is empty may be in the place of a Num alone.
	for i := range 5 {
		for _, good := range [][]string{label, head, cite, bib} {
			if i >= len(good) {
				continue
			}
			l := slices.Clone(good)
			l[i] = ""
			if _, e := side.Decode(record(l...)); (e == api.OK) != (i == 2 && len(good) > 2) {
				t.Errorf("%q: %d", l, e)
			}
		}
	}
}

// P10.1: records stand in the order of their kinds alone.
func TestDecodeOrder(t *testing.T) {
	all := []string{record("label", "k", "1", "3"), record("head", "1", "1", "A", "3"), record("cite", "x"), record("bib", "x")}
	again := []string{record("label", "j", "1", "3"), record("head", "1", "1", "B", "3"), record("cite", "y"), record("bib", "y")}
	more := []string{record("label", "l", "", "0"), record("head", "2", "", "A", "0"), record("cite", "z"), record("bib", "z")}
	for i := range 4 {
		for j := range 4 {
			if _, e := side.Decode(all[i] + again[j]); (e == api.OK) != (i <= j) {
				t.Errorf("%q: %d", all[i]+again[j], e)
			}
			for k, third := range more {
				if _, e := side.Decode(all[i] + again[j] + third); (e == api.OK) != (i <= j && j <= k) {
					t.Errorf("%q: %d", all[i]+again[j]+third, e)
				}
			}
			// The same record twice: Heads alone may be.
			_, e := side.Decode(all[i] + all[j])
			if (e == api.OK) != (i < j || i == 1 && j == 1) {
				t.Errorf("%q: %d", all[i]+all[j], e)
			}
		}
	}
	checkBad(t, all[0]+all[1]+all[2]+all[3]+again[0])
	checkBad(t, all[2]+all[0])
	checkBad(t, all[0]+all[1]+again[0])
	checkBad(t, all[0]+again[0]+all[0])
	checkBad(t, all[2]+again[2]+all[2])
	checkBad(t, all[3]+again[3]+all[3])
	checkGood(t, all[1]+all[1], side.Side{Heads: []side.Head{{Level: 1, Num: "1", Title: "A", Page: 3}, {Level: 1, Num: "1", Title: "A", Page: 3}}})
}

// P10.1: a Page and a Level are written in one way alone.
func TestDecodeNumbers(t *testing.T) {
	for _, s := range []string{"", "00", "01", "02", "03", "001", "0000001", "+1", "-1", "-0", "+0", " 1", "1 ", "1\n", "a", "1a", "a1", "i", "I", "ii", "1.0", "1,0", "0x1", "1e1", "1_0", "１", "\u0661", "1000000", "1000001", "0999999", "9999990", "10000000", "4294967297", "9223372036854775807", "9223372036854775808", "18446744073709551617", "18446744073709551616", "-9223372036854775808", strings.Repeat("1", 400), strings.Repeat("0", 400)} {
		checkBad(t, record("label", "k", "1", s))
		checkBad(t, record("head", "1", "1", "A", s))
		checkBad(t, record("head", s, "1", "A", "1"))
	}
	for _, n := range []int{0, 1, 2, 3, 7, 10, 11, 99, 100, 99999, 100000, 999999} {
		s := strconv.Itoa(n)
		checkGood(t, record("label", "k", "", s), side.Side{Labels: []side.Label{{Key: "k", Page: n}}})
		checkGood(t, record("head", "2", "", "A", s), side.Side{Heads: []side.Head{{Level: 2, Title: "A", Page: n}}})
		if n == 1 || n == 2 {
			checkGood(t, record("head", s, "", "A", "0"), side.Side{Heads: []side.Head{{Level: n, Title: "A"}}})
		} else {
			checkBad(t, record("head", s, "", "A", "0"))
		}
	}
}

// P10.1: Find, of any side.
func TestFind(t *testing.T) {
	long := strings.Repeat("x", 61)
	many := labels(names(200)...)
	for _, c := range []struct {
		l   []side.Label
		key string
		at  int
	}{
		{nil, "k", -1}, {nil, "", -1},
		{labels("a", "b", "c"), "a", 0}, {labels("a", "b", "c"), "b", 1}, {labels("a", "b", "c"), "c", 2}, {labels("c", "b", "a"), "a", 2},
		{labels("a", "b", "c"), "d", -1}, {labels("a", "b", "c"), "", -1}, {labels("a", "b", "c"), "A", -1}, {labels("ab", "b"), "a", -1}, {labels("a", "b"), "ab", -1}, {labels("a", "b"), "a ", -1}, {labels("a", "b"), "0", -1},
		{labels("two words"), "two words", 0}, {labels("two words"), "two  words", -1}, {labels("two words"), "two", -1},
		// Sides that may not be.
		{labels("a", "b", "a"), "a", 0}, {labels("b", "a", "a"), "a", 1}, {labels("a", "a"), "b", -1},
		{labels("", "a"), "", 0}, {labels("a", ""), "", 1}, {labels("a", "", ""), "", 1}, {labels(" a "), " a ", 0}, {labels("a", long), long, 1}, {labels(" "), "", -1},
		{many, "k0", 0}, {many, "k100", 100}, {many, "k199", 199}, {many, "k200", -1},
		{[]side.Label{{Key: "a", Num: long, Page: -1}, {Key: "a"}}, "a", 0}, {[]side.Label{{Key: "b", Page: math.MinInt}}, "b", 0},
		{[]side.Label{{}, {Key: "a", Page: 1}, {Key: "a", Page: 2}}, "a", 1},
	} {
		want := side.Label{}
		if c.at >= 0 {
			want = c.l[c.at]
		}
		for _, x := range []side.Side{{Labels: c.l}, {Labels: c.l, Heads: heads("A"), Cites: []string{"d"}, Bibs: []string{"b"}}, {Labels: c.l, Heads: make([]side.Head, 101), Cites: []string{"d", "d"}}} {
			if l, is := side.Find(x, c.key); l != want || is != (c.at >= 0) {
				t.Errorf("Find(%s, %q) = %v, %v", short(c.l), c.key, l, is)
			}
		}
	}
	// Labels alone count.
	if l, is := side.Find(side.Side{Heads: heads("a"), Cites: []string{"a"}, Bibs: []string{"a"}}, "a"); is || l != (side.Label{}) {
		t.Errorf("Find: %v, %v", l, is)
	}
}

// R1: lists and bytes that are long.
func TestLong(t *testing.T) {
	const n = 300000
	keys := names(n)
	for _, x := range []side.Side{{Labels: labels(keys...)}, {Heads: heads(keys...)}, {Cites: keys}, {Bibs: keys}} {
		checkMay(t, x, false)
	}
	if l, is := side.Find(side.Side{Labels: labels(keys...)}, keys[n-1]); !is || l.Page != n-1 {
		t.Errorf("Find: %v, %v", l, is)
	}
	million := strings.Repeat("x", 1000000)
	for _, s := range []string{million, million[:999999], million[:999900], million[:61]} {
		for _, x := range keyed(s) {
			if b, e := side.Encode(x); side.Right(x) || b != "" || e != api.ErrForm {
				t.Errorf("Encode of %d bytes: %d", len(s), e)
			}
			checkBad(t, bytesOf(x))
		}
		checkBad(t, record("label", "k", s, "0"))
		checkBad(t, record("label", "k", "", strings.Repeat("9", len(s))))
		checkBad(t, record(s))
		checkBad(t, record(s, "x"))
		checkBad(t, s)
		checkBad(t, text(s))
	}
	for _, s := range []string{"0:,", "3:0:,,", "1", "1:", "0", ",", "7:4:cite,,", "11:4:cite,1:x,,", "23:4:head,1:1,1:1,1:A,1:1,,", "1:1,"} {
		checkBad(t, strings.Repeat(s, n))
	}
	checkBad(t, text(strings.Repeat("0:,", 333333)))
	checkBad(t, text("4:cite,"+strings.Repeat("0:,", 333330)))
	nested := ""
	for range 2000 {
		nested = text(nested)
	}
	checkBad(t, nested)
	checkBad(t, text("4:cite,"+text(nested)))
}
