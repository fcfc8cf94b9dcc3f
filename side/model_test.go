package side_test

import (
	"math"
	"math/rand"
	"regexp"
	"slices"
	"strconv"
	"strings"
	"testing"

	"stet/api"
	"stet/side"
)

var keyText = regexp.MustCompile(`^[^ ]+( [^ ]+)*$`)

// modelRight is a second telling of the document's words: what is there twice is told by counting, not in passing.
func modelRight(x side.Side) bool {
	var keys, titles []string
	is := len(x.Labels) <= 100 && len(x.Heads) <= 100 && len(x.Cites) <= 100 && len(x.Bibs) <= 8
	for _, l := range x.Labels {
		is = is && len(l.Num) <= 40 && l.Page >= 0 && l.Page <= 999999
		keys = append(keys, l.Key)
	}
	for _, h := range x.Heads {
		is = is && len(h.Num) <= 40 && h.Page >= 0 && h.Page <= 999999 && h.Level >= 1 && h.Level <= 2
		titles = append(titles, h.Title)
	}
	for _, l := range [][]string{keys, x.Cites, x.Bibs} {
		sorted := slices.Sorted(slices.Values(l))
		is = is && len(slices.Compact(sorted)) == len(l)
	}
	for _, s := range slices.Concat(keys, titles, x.Cites, x.Bibs) {
		is = is && len(s) <= 60 && keyText.MatchString(s)
	}
	return is
}

func modelEncode(x side.Side) (string, api.Errno) {
	if !modelRight(x) {
		return "", api.ErrForm
	}
	return bytesOf(x), api.OK
}

// modelNumber is a number that is written as it would be told.
func modelNumber(s string) (int, bool) {
	n, err := strconv.Atoi(s)
	return n, err == nil && n >= 0 && n <= 999999 && strconv.Itoa(n) == s
}

// modelTexts are those that stand one behind the other in bytes.
func modelTexts(s string) ([]string, bool) {
	var l []string
	for s != "" {
		head, rest, _ := strings.Cut(s, ":")
		n, is := modelNumber(head)
		if !is || len(rest) <= n || rest[n] != ',' {
			return nil, false
		}
		l = append(l, rest[:n])
		s = rest[n+1:]
	}
	return l, true
}

// modelDecode reads strictly, in one way alone, each record by its kind's place in the order.
func modelDecode(s string) (side.Side, api.Errno) {
	var x side.Side
	all, is := modelTexts(s)
	last := 0
	for _, one := range all {
		parts, whole := modelTexts(one)
		is = is && whole && len(parts) > 0
		if !is {
			break
		}
		kind := slices.Index([]string{"label", "head", "cite", "bib"}, parts[0])
		if kind < last || len(parts) != []int{4, 5, 2, 2}[kind] {
			return side.Side{}, api.ErrForm
		}
		last = kind
		page, level, right := 0, 0, true
		if kind < 2 {
			page, is = modelNumber(parts[len(parts)-1])
		}
		switch kind {
		case 0:
			x.Labels = append(x.Labels, side.Label{Key: parts[1], Num: parts[2], Page: page})
		case 1:
			level, right = modelNumber(parts[1])
			x.Heads = append(x.Heads, side.Head{Level: level, Num: parts[2], Title: parts[3], Page: page})
		case 2:
			x.Cites = append(x.Cites, parts[1])
		case 3:
			x.Bibs = append(x.Bibs, parts[1])
		}
		is = is && right
	}
	if !is || !modelRight(x) {
		return side.Side{}, api.ErrForm
	}
	return x, api.OK
}

// modelFind goes from behind, so that the first one is seen last.
func modelFind(x side.Side, key string) (side.Label, bool) {
	var found side.Label
	is := false
	for _, l := range slices.Backward(x.Labels) {
		if l.Key == key {
			found, is = l, true
		}
	}
	return found, is
}

// checkSide holds what is told of a side against the model, and against P10.2.
func checkSide(t *testing.T, x side.Side) bool {
	t.Helper()
	right := modelRight(x)
	if side.Right(x) != right {
		t.Fatalf("Right(%s) = %v", short(x), !right)
	}
	s, e := side.Encode(x)
	if want, wantE := modelEncode(x); s != want || e != wantE {
		t.Fatalf("Encode(%s) = %s, %d; want %s, %d", short(x), short(s), e, short(want), wantE)
	}
	if right {
		if y, e := side.Decode(s); !same(y, x) || e != api.OK {
			t.Fatalf("Decode(%s) = %s, %d; want %s", short(s), short(y), e, short(x))
		}
	}
	for _, key := range []string{"", "k0", "k1", "k2", "k99", "k100", " a"} {
		checkFind(t, x, key)
	}
	for _, l := range x.Labels {
		checkFind(t, x, l.Key)
	}
	checkDecode(t, bytesOf(x))
	return right
}

func checkFind(t *testing.T, x side.Side, key string) {
	t.Helper()
	l, is := side.Find(x, key)
	if want, wantIs := modelFind(x, key); l != want || is != wantIs {
		t.Fatalf("Find(%s, %q) = %v, %v; want %v, %v", short(x), key, l, is, want, wantIs)
	}
}

// checkDecode holds what is told of bytes against the model, and against P10.2.
func checkDecode(t *testing.T, s string) bool {
	t.Helper()
	x, e := side.Decode(s)
	if want, wantE := modelDecode(s); !same(x, want) || e != wantE {
		t.Fatalf("Decode(%s) = %s, %d; want %s, %d", short(s), short(x), e, short(want), wantE)
	}
	if e != api.OK {
		return false
	}
	if b, e := side.Encode(x); b != s || e != api.OK || !side.Right(x) {
		t.Fatalf("Decode(%s) = %s, of which the bytes are %s, %d", short(s), short(x), short(b), e)
	}
	return true
}

// chooser tells what is right, but of so many of a thousand texts and numbers something that seldom is.
type chooser struct {
	*rand.Rand
	odd int
}

func (r chooser) strays() bool { return r.Intn(1000) < r.odd }

func oneOf[T any](r chooser, l ...T) T { return l[r.Intn(len(l))] }

func (r chooser) key(i int) string {
	long := strings.Repeat("x", 60)
	if r.strays() {
		return oneOf(r, "", " ", " a", "a ", "a  b", long+"x", "  ", "k0", "k1", "\t", "a \n b", long[:59]+" ")
	}
	n := "k" + strconv.Itoa(i)
	return oneOf(r, n, n, n, n+" b", "a b "+n, "\n"+n, n+"\t\t", "\xff\x00 "+n, "1:a,"+n, n+long[:60-len(n)], "é "+n+" %{")
}

func (r chooser) num() string {
	if r.strays() {
		return oneOf(r, strings.Repeat("1", 41), strings.Repeat(" ", 60), strings.Repeat("é", 21), " ", "\x00", "0:,")
	}
	return oneOf(r, "", "1", "2.10", " ", "  ", "1:a,", "\xff\n", strings.Repeat(".", 39), strings.Repeat(",", 40))
}

func (r chooser) page() int {
	if r.strays() {
		return oneOf(r, -1, 1000000, math.MinInt, math.MaxInt, 1<<32, 0, 7)
	}
	return oneOf(r, 0, 1, 9, 10, 12, 345, 999998, 999999, r.Intn(1000000))
}

func (r chooser) level() int {
	if r.strays() {
		return oneOf(r, 0, 3, -1, 10, math.MinInt, math.MaxInt, 1, 2)
	}
	return 1 + r.Intn(2)
}

// many is how many a list has, which of them there may be so many.
func (r chooser) many(most int) int {
	if r.strays() {
		return most + r.Intn(3)
	}
	return oneOf(r, 0, 0, 1, 2, 3, r.Intn(most+1))
}

func (r chooser) side() side.Side {
	var x side.Side
	for i := range r.many(100) {
		x.Labels = append(x.Labels, side.Label{Key: r.key(i), Num: r.num(), Page: r.page()})
	}
	for range r.many(100) {
		x.Heads = append(x.Heads, side.Head{Level: r.level(), Num: r.num(), Title: r.key(r.Intn(9)), Page: r.page()})
	}
	for i := range r.many(100) {
		x.Cites = append(x.Cites, r.key(i))
	}
	for i := range r.many(8) {
		x.Bibs = append(x.Bibs, r.key(i))
	}
	return x
}

// P10.1, P10.2: many sides.
func TestModelSides(t *testing.T) {
	for _, c := range []struct{ odd, times, least, most int }{{0, 3000, 3000, 3000}, {3, 6000, 2000, 5500}, {30, 6000, 600, 4000}, {300, 3000, 0, 1500}} {
		r := chooser{rand.New(rand.NewSource(101)), c.odd}
		right := 0
		for range c.times {
			if checkSide(t, r.side()) {
				right++
			}
		}
		if right < c.least || right > c.most {
			t.Errorf("odd %d: %d of %d are right", c.odd, right, c.times)
		}
	}
}

// P10.1, P10.2: all lists of up to three of these records, which are of all kinds, right and wrong.
func TestModelRecords(t *testing.T) {
	records := []string{
		record("label", "a", "1", "3"), record("label", "b", "", "0"), record("label", "a", "2", "3"), record("label", "", "", "0"), record("label", "a ", "", "0"), record("label", "c", "", "00"), record("label", "c", "", "1000000"), record("label", "c", ""), record("label", "c", strings.Repeat("1", 41), "0"),
		record("head", "1", "1", "a", "3"), record("head", "2", "", "a b", "999999"), record("head", "3", "", "a", "0"), record("head", "0", "", "a", "0"), record("head", "01", "", "a", "0"), record("head", "1", "", "", "0"), record("head", "1", "", "a", ""), record("head", "1", "", "a", "0", "0"),
		record("cite", "a"), record("cite", "b"), record("cite", "a  b"), record("cite", ""), record("cite", "a", "b"), record("cite"),
		record("bib", "a"), record("bib", "b"), record("bib", " "), record("bib", "a", ""), record("bib"),
		record("a"), record(""), record(), text("x"), text("4:cite,1:a"), text("4:cite,01:a,"), net("cite", "a"), "", "x", "0:", "14:5:label,1:k,0:,,",
	}
	good := 0
	for _, a := range records {
		for _, b := range records {
			for _, c := range records {
				if checkDecode(t, a+b+c) {
					good++
				}
			}
		}
	}
	if good < 100 || good > 2000 {
		t.Errorf("%d are a side's", good)
	}
}

// digits are a number's, seldom with something ahead of them.
func (r chooser) digits(n int) string {
	if r.strays() {
		return oneOf(r, "0", "+", "-", " ", "x") + strconv.Itoa(n)
	}
	return strconv.Itoa(n)
}

// parts are those of a record of a kind, seldom one too many or one too few.
func (r chooser) parts(kind int) []string {
	i := r.Intn(30)
	l := [][]string{
		{"label", r.key(i), r.num(), r.digits(r.page())},
		{"head", r.digits(r.level()), r.num(), r.key(i), r.digits(r.page())},
		{"cite", r.key(i)},
		{"bib", r.key(i)},
	}[kind]
	at := r.Intn(len(l))
	if r.strays() {
		l = slices.Insert(l, at, oneOf(r, "", "1", "a", "cite"))
	}
	if r.strays() {
		l = slices.Delete(l, at, at+1)
	}
	return l
}

// P10.1, P10.2: records of parts that are put together by chance.
func TestModelParts(t *testing.T) {
	r := chooser{rand.New(rand.NewSource(102)), 30}
	good := 0
	for range 60000 {
		s, kind := "", 0
		for range r.Intn(5) {
			kind = min(kind+r.Intn(2)+r.Intn(2), 3)
			if r.strays() {
				kind = r.Intn(4)
			}
			s += record(r.parts(kind)...)
		}
		if checkDecode(t, s) {
			good++
		}
	}
	if good < 20000 || good > 50000 {
		t.Errorf("%d are a side's", good)
	}
}

// someBytes are those of sides with a few of each.
func someBytes() []string {
	l := []string{bytesOf(whole()), bytesOf(side.Side{Labels: labels("a", "b c"), Cites: []string{"a"}}), bytesOf(side.Side{Heads: heads("a", "a"), Bibs: []string{"\n", "12345678901"}})}
	for _, x := range keyed("k") {
		l = append(l, bytesOf(x))
	}
	return l
}

// P10.1, P10.2: the bytes of sides with one byte changed, struck, or put in, and with two that change places.
func TestModelOneByte(t *testing.T) {
	for _, s := range someBytes() {
		good := 0
		for at := range len(s) + 1 {
			for b := range 256 {
				c := string([]byte{byte(b)})
				checkDecode(t, s[:at]+c+s[at:])
				if at < len(s) && checkDecode(t, s[:at]+c+s[at+1:]) {
					good++
				}
			}
			if at == len(s) {
				continue
			}
			checkDecode(t, s[:at]+s[at+1:])
			checkDecode(t, s[at:]+s[:at])
			for to := at + 1; to < len(s); to++ {
				checkDecode(t, s[:at]+s[to:])
				b := []byte(s)
				b[at], b[to] = b[to], b[at]
				checkDecode(t, string(b))
			}
		}
		if good < 200 {
			t.Errorf("%q: %d with one byte changed are a side's", s, good)
		}
	}
}

// P10.1, P10.2: the bytes of many sides, changed in a few places.
func TestModelChangedBytes(t *testing.T) {
	r := chooser{rand.New(rand.NewSource(103)), 2}
	signs := "0123456789:,, abk\x00\xff"
	for range 40000 {
		b := []byte(bytesOf(r.side()))
		for range 1 + r.Intn(2) {
			at, sign := r.Intn(len(b)+1), signs[r.Intn(len(signs))]
			switch to := min(at+1, len(b)); r.Intn(4) {
			case 0:
				b = slices.Insert(b, at, sign)
			case 1:
				b = slices.Delete(b, at, to)
			case 2:
				b = slices.Replace(b, at, to, sign)
			case 3:
				b = slices.Delete(b, at, min(at+r.Intn(40), len(b)))
			}
		}
		checkDecode(t, string(b))
	}
}

// P10.1, P10.2: short texts of these bytes.
func TestModelShortBytes(t *testing.T) {
	good := 0
	var fill func(s string, n int)
	fill = func(s string, n int) {
		if checkDecode(t, s) {
			good++
		}
		for _, c := range "01:,a" {
			if n > 0 {
				fill(s+string(c), n-1)
			}
		}
	}
	fill("", 7)
	if good != 1 {
		t.Errorf("%d are a side's", good)
	}
	// The same around words of records.
	for _, before := range []string{"", "1", "10:", "11:", "0:,", "14:"} {
		for _, word := range []string{"3:bib,", "3:bi", "4:cite,", "bib"} {
			fill(before+word, 5)
		}
	}
}

// roomy is a list with room behind it, and all of that room, in which there is something.
func roomy[T any](l []T, behind T, n int) ([]T, []T) {
	all := slices.Clone(l)
	for range n {
		all = append(all, behind)
	}
	all = all[:len(all):len(all)]
	return all[:len(l)], all
}

// spoil puts something into a list, and into the room behind it.
func spoil[T any](l []T, with T) {
	l = l[:cap(l)]
	for i := range l {
		l[i] = with
	}
}

// spoilSide does so with all four lists.
func spoilSide(x side.Side) {
	spoil(x.Labels, side.Label{Key: "spoiled", Page: 9})
	spoil(x.Heads, side.Head{Level: 7, Title: "spoiled"})
	spoil(x.Cites, "spoiled")
	spoil(x.Bibs, "spoiled bib")
}

// cloned is a side in memory of its own.
func cloned(x side.Side) side.Side {
	return side.Side{Labels: slices.Clone(x.Labels), Heads: slices.Clone(x.Heads), Cites: slices.Clone(x.Cites), Bibs: slices.Clone(x.Bibs)}
}

// R4: what is handed in stays as it was, the room behind it, too.
func TestHandedIn(t *testing.T) {
	r := chooser{rand.New(rand.NewSource(104)), 5}
	for range 2000 {
		x := r.side()
		var all side.Side
		x.Labels, all.Labels = roomy(x.Labels, oneOf(r, side.Label{Key: "k0"}, side.Label{Key: "other"}), r.Intn(9))
		x.Heads, all.Heads = roomy(x.Heads, oneOf(r, side.Head{}, side.Head{Level: 1, Title: "A"}), r.Intn(9))
		x.Cites, all.Cites = roomy(x.Cites, oneOf(r, "k0", "other"), r.Intn(9))
		x.Bibs, all.Bibs = roomy(x.Bibs, oneOf(r, "k0", "other"), r.Intn(9))
		was := cloned(all)
		right := side.Right(x)
		s, e := side.Encode(x)
		l, is := side.Find(x, "k0")
		if !same(all, was) {
			t.Fatalf("%s: now %s", short(was), short(all))
		}
		if right != modelRight(x) {
			t.Fatalf("Right(%s) = %v", short(x), right)
		}
		want, wantE := modelEncode(x)
		found, wantIs := modelFind(x, "k0")
		spoilSide(x)
		if s != want || e != wantE || l != found || is != wantIs {
			t.Fatalf("%s: an answer goes with what was handed in", short(was))
		}
	}
}

// R4: what is decoded is new memory, and no list of it shares any with another one.
func TestDecodedMemory(t *testing.T) {
	r := chooser{rand.New(rand.NewSource(105)), 0}
	for range 2000 {
		x := r.side()
		s := bytesOf(x)
		one, _ := side.Decode(s)
		two, _ := side.Decode(s)
		spoilSide(one)
		if three, e := side.Decode(s); !same(two, x) || !same(three, x) || e != api.OK {
			t.Fatalf("%s: what is changed in an answer is seen in another one", short(x))
		}
		// What is put behind a list, and into one, goes into no other one.
		_ = append(two.Labels, side.Label{Key: "more"})
		_ = append(two.Heads, side.Head{Title: "more"})
		_ = append(append(two.Cites, "more"), "more")
		_ = append(append(two.Bibs, "more"), "more")
		if !same(two, x) {
			t.Fatalf("%s: what is put behind a list is seen in another one", short(x))
		}
		spoil(two.Cites, "spoiled")
		if !same(side.Side{Labels: two.Labels, Heads: two.Heads, Bibs: two.Bibs}, side.Side{Labels: x.Labels, Heads: x.Heads, Bibs: x.Bibs}) {
			t.Fatalf("%s: lists of one answer share memory", short(x))
		}
		spoil(two.Bibs, "spoiled bib")
		if slices.Contains(two.Cites, "spoiled bib") {
			t.Fatalf("%s: Cites and Bibs share memory", short(x))
		}
	}
}

// R5: what is answered hangs on nothing but what is handed in, whatever else was asked, and in which order a map is gone through.
func TestSameAnswers(t *testing.T) {
	r := chooser{rand.New(rand.NewSource(106)), 6}
	var sides []side.Side
	for range 200 {
		sides = append(sides, r.side())
	}
	for range 20 {
		for _, i := range r.Perm(len(sides)) {
			checkSide(t, sides[i])
		}
	}
}
