package files

import (
	"maps"
	"math/rand"
	"slices"
	"strconv"
	"strings"
	"testing"

	"stet/api"
)

var (
	longName = strings.Repeat("n", 24)
	longText = strings.Repeat("t", 4000)
)

// list makes files of "name=text" words.
func list(words string) []api.File {
	var l []api.File
	for _, w := range strings.Fields(words) {
		name, text, _ := strings.Cut(w, "=")
		l = append(l, api.File{Name: name, Text: text})
	}
	return l
}

// many is a map of n files.
func many(n int) []api.File {
	var l []api.File
	for i := range n {
		l = append(l, api.File{Name: "f" + strconv.Itoa(100+i), Text: strconv.Itoa(i)})
	}
	return l
}

// equal holds lists against each other without the package's own means.
func equal(a, b []api.File) bool {
	return slices.Equal(a, b)
}

// P2.1
func TestNameBytes(t *testing.T) {
	const good = "abcdefghijklmnopqrstuvwxyz0123456789-."
	for c := range 256 {
		b := string([]byte{byte(c)})
		want := strings.Contains(good, b)
		for _, s := range []string{b, b + "a", "a" + b, "a" + b + "a", longName[:23] + b, b + longName[:23]} {
			if Name(s) != want {
				t.Errorf("Name(%q) = %v", s, !want)
			}
		}
	}
}

// P2.1
func TestNameLengths(t *testing.T) {
	for n := range 300 {
		for _, s := range []string{"a", "9", "-", "."} {
			if s = strings.Repeat(s, n); Name(s) != (n >= 1 && n <= 24) {
				t.Errorf("Name(%q) = %v", s, Name(s))
			}
		}
	}
	for _, s := range []string{
		"Main.aux", "main aux", "a/b", "a_b", "a\x00", "\n", "a\n", "é", "aé", "\u0430", "\xff", "\xc3", "１",
		strings.Repeat("é", 12), strings.Repeat("a", 1<<16),
	} {
		if Name(s) {
			t.Errorf("Name(%q)", s)
		}
	}
}

// P2.1
func TestRight(t *testing.T) {
	for _, l := range [][]api.File{
		nil, {}, list("a=1"), list("a b c"), list("- . 0 a"), list("a a-"), list("a-b a.b a0b aab ab"), list("10 9"),
		{{Name: longName, Text: longText}}, {{Name: longName[:23], Text: longText}, {Name: longName}},
		many(31), many(32), many(40)[8:],
	} {
		if !Right(l) {
			t.Error("a map is none:", l)
		}
	}
	for _, l := range [][]api.File{
		list("b a"), list("a a"), list("a=1 a=2"), list("a b b"), list("a b a"), list("a c b d"), list("9 10"), list("0 -"),
		{{}}, {{Text: "x"}}, {{}, {Name: "a"}}, {{Name: "a"}, {}}, list("A"), list("a a/b"), list("a b~"),
		{{Name: longName + "n"}}, {{Name: "a"}, {Name: longName + "n"}},
		{{Name: "a", Text: longText + "t"}}, {{Name: "a"}, {Name: "b", Text: longText + "t"}},
		{{Name: "a", Text: longText + "t"}, {Name: "b"}},
		many(33), many(100),
	} {
		if Right(l) {
			t.Error("no map is one:", l)
		}
	}
}

// P2.1: a fault is found wherever in the list it is.
func TestRightAtEachPlace(t *testing.T) {
	for i := range 32 {
		for _, f := range []api.File{{}, {Name: "f1_"}, {Name: many(32)[i].Name, Text: longText + "t"}} {
			l := many(32)
			l[i] = f
			if Right(l) {
				t.Error(i, f.Name, len(f.Text))
			}
		}
		if l := many(32); i > 0 {
			l[i-1], l[i] = l[i], l[i-1]
			if Right(l) {
				t.Error("falls at", i)
			}
			l[i] = l[i-1]
			if Right(l) {
				t.Error("twice at", i)
			}
		}
	}
}

// P2.1
func TestGet(t *testing.T) {
	l := []api.File{{Name: "a", Text: "1"}, {Name: "b"}, {Name: "c.x", Text: "\x00\xff\n"}, {Name: longName, Text: longText}}
	for _, f := range l {
		if s, has := Get(l, f.Name); s != f.Text || !has {
			t.Errorf("Get(%q) = %q, %v", f.Name, s, has)
		}
	}
	for _, name := range []string{"", "-", "0", "aa", "c", "c.", "c.xx", "d", "z", "A", "a ", "\xff", longName[:23], longName + "n"} {
		for _, m := range [][]api.File{l, nil, {}} {
			if s, has := Get(m, name); s != "" || has {
				t.Errorf("Get(%q) = %q, %v", name, s, has)
			}
		}
	}
}

// P2.1: in maps of all sizes, each place and each gap between two.
func TestGetAtEachPlace(t *testing.T) {
	for n := range 33 {
		l := many(n)
		for i := range 40 {
			name := "f" + strconv.Itoa(100+i)
			want := ""
			if i < n {
				want = strconv.Itoa(i)
			}
			if s, has := Get(l, name); s != want || has != (i < n) {
				t.Errorf("%d: Get(%q) = %q, %v", n, name, s, has)
			}
			if s, has := Get(l, name+"-"); s != "" || has {
				t.Errorf("%d: Get(%q) = %q, %v", n, name+"-", s, has)
			}
		}
	}
}

// P2.2
func TestPut(t *testing.T) {
	for _, c := range [][3]string{
		{"", "a=1", "a=1"}, {"b", "a=1", "a=1 b"}, {"a=1", "b", "a=1 b"}, {"a c", "b=x", "a b=x c"},
		{"a=1", "a=2", "a=2"}, {"a=1", "a=1", "a=1"}, {"a=1", "a", "a"}, {"a", "a=1", "a=1"}, {"a b c", "b", "a b c"},
		{"a=1 b=2 c=3", "a", "a b=2 c=3"}, {"a=1 b=2 c=3", "b=9", "a=1 b=9 c=3"}, {"a=1 b=2 c=3", "c=9", "a=1 b=2 c=9"},
		{"a aa", "a-=1", "a a-=1 aa"}, {"a b", "0", "0 a b"}, {"a b", "-", "- a b"}, {"0 a", ".", ". 0 a"}, {"9", "10", "10 9"},
	} {
		l, f := list(c[0]), list(c[1])[0]
		if m, e := Put(l, f); e != api.OK || !equal(m, list(c[2])) {
			t.Error(c, m, e)
		}
	}
}

// P2.2
func TestPutAtItsEdges(t *testing.T) {
	for _, f := range []api.File{{Name: longName}, {Name: "a", Text: longText}, {Name: longName, Text: longText}, {Name: "."}} {
		if m, e := Put(list("b c"), f); e != api.OK || !Right(m) || len(m) != 3 {
			t.Error(f.Name, len(f.Text), m, e)
		}
	}
	for _, c := range []struct {
		l    []api.File
		f    api.File
		want api.Errno
	}{
		{nil, api.File{}, api.ErrName},
		{nil, api.File{Name: "A", Text: "x"}, api.ErrName},
		{list("a"), api.File{Name: longName + "n"}, api.ErrName},
		{list("a"), api.File{Name: longName + "n", Text: longText + "t"}, api.ErrName},
		{many(32), api.File{Name: "b c"}, api.ErrName},
		{many(32), api.File{Text: longText + "t"}, api.ErrName},
		{nil, api.File{Name: "a", Text: longText + "t"}, api.ErrBig},
		{list("a"), api.File{Name: "a", Text: longText + "t"}, api.ErrBig},
		{many(32), api.File{Name: "f100", Text: longText + "t"}, api.ErrBig},
		{many(32), api.File{Name: "a"}, api.ErrBig},
		{many(32), api.File{Name: "f100-"}, api.ErrBig},
		{many(32), api.File{Name: "z", Text: longText}, api.ErrBig},
	} {
		if m, e := Put(c.l, c.f); e != c.want || len(m) != 0 {
			t.Error(len(c.l), c.f.Name, len(c.f.Text), m, e)
		}
	}
}

// P2.2: a full map takes a file in the place of one, and none beside them.
func TestPutIntoFull(t *testing.T) {
	for i, f := range many(32) {
		f.Text = longText
		want := many(32)
		want[i] = f
		if m, e := Put(many(32), f); e != api.OK || !equal(m, want) {
			t.Error(i, m, e)
		}
		if m, e := Put(many(32), api.File{Name: f.Name + "."}); e != api.ErrBig || len(m) != 0 {
			t.Error(i, m, e)
		}
		less := slices.Delete(many(32), i, i+1)
		if m, e := Put(less, f); e != api.OK || !equal(m, want) {
			t.Error(i, m, e)
		}
	}
}

// P2.2
func TestDrop(t *testing.T) {
	for _, c := range []struct {
		l, name, want string
		was           bool
	}{
		{"", "a", "", false}, {"a=1", "a", "", true}, {"a=1", "b", "a=1", false}, {"b=1", "a", "b=1", false},
		{"a=1 b=2 c=3", "a", "b=2 c=3", true}, {"a=1 b=2 c=3", "b", "a=1 c=3", true}, {"a=1 b=2 c=3", "c", "a=1 b=2", true},
		{"a=1 b=2 c=3", "ab", "a=1 b=2 c=3", false}, {"a=1 b=2 c=3", "", "a=1 b=2 c=3", false},
		{"a=1 b=2 c=3", "A", "a=1 b=2 c=3", false}, {"a=1 b=2 c=3", "\xff", "a=1 b=2 c=3", false},
	} {
		if m, was := Drop(list(c.l), c.name); was != c.was || !equal(m, list(c.want)) {
			t.Error(c, m, was)
		}
	}
	for i, f := range many(32) {
		if m, was := Drop(many(32), f.Name); !was || !equal(m, slices.Delete(many(32), i, i+1)) {
			t.Error(i, m, was)
		}
	}
}

// P2.3
func TestMerge(t *testing.T) {
	for _, c := range [][3]string{
		{"", "", ""}, {"a=1", "", "a=1"}, {"", "a=1", "a=1"}, {"a=1", "a=2", "a=2"}, {"a=1", "b=2", "a=1 b=2"}, {"b=1", "a=2", "a=2 b=1"},
		{"a=1 b=2 c=3", "b=9 d=4", "a=1 b=9 c=3 d=4"}, {"b=1 d=2", "a=3 c=4 e=5", "a=3 b=1 c=4 d=2 e=5"}, {"a=1 b=2", "a b", "a b"},
	} {
		if m, e := Merge(list(c[0]), list(c[1])); e != api.OK || !equal(m, list(c[2])) {
			t.Error(c, m, e)
		}
	}
}

// P2.3
func TestMergeOfMany(t *testing.T) {
	all := many(48)
	for i := range 33 {
		for j := range 49 {
			if j-i > 32 {
				continue
			}
			a, b := all[:i], all[min(i, j):j]
			m, e := Merge(a, b)
			if want := max(i, j) <= 32; want != (e == api.OK) || want && !equal(m, all[:max(i, j)]) {
				t.Error(i, j, m, e)
			}
			if e != api.OK && (e != api.ErrBig || len(m) != 0) {
				t.Error(i, j, m, e)
			}
		}
	}
	// What is put late in a full map is no help to what was put early.
	if m, e := Merge(many(32), list("a f100")); e != api.ErrBig || len(m) != 0 {
		t.Error(m, e)
	}
	if m, e := Merge(many(32), many(32)); e != api.OK || !equal(m, many(32)) {
		t.Error(m, e)
	}
}

// P2.3
func TestDiff(t *testing.T) {
	for _, c := range [][3]string{
		{"", "", ""}, {"a", "", "a"}, {"a=1 b", "", "a b"}, {"a=1", "a=1", ""}, {"a=1", "a=2", "a"}, {"a", "a=2", "a"}, {"a b", "b c", "a c"},
		{"a=1 b=2 c=3", "a=1 b=9 c=3", "b"}, {"a=1 b=2 c=3", "a=3 b=2 c=1", "a c"}, {"a c e", "b d f", "a b c d e f"},
		{"a", "b c d", "a b c d"}, {"d", "a b c", "a b c d"}, {"a aa", "a a-", "a- aa"}, {"a z", "z", "a"}, {"a=1 z", "a=2 z=1", "a z"},
	} {
		for _, p := range [][2]string{{c[0], c[1]}, {c[1], c[0]}} {
			if d := Diff(list(p[0]), list(p[1])); !slices.Equal(d, strings.Fields(c[2])) {
				t.Error(p, d)
			}
		}
	}
	all := many(64)
	for i := range 33 {
		if d := Diff(all[:32], all[i:i+32]); len(d) != 2*i {
			t.Error(i, d)
		}
	}
	a := []api.File{{Name: longName, Text: longText}}
	b := []api.File{{Name: longName, Text: longText[:3999] + "u"}}
	if d := Diff(a, b); !slices.Equal(d, []string{longName}) {
		t.Error(d)
	}
}

// P2.3
func TestSame(t *testing.T) {
	for _, s := range []string{"", "a", "a=1", "a=1 b=2 c"} {
		if !Same(list(s), list(s)) || !Same(append([]api.File{}, list(s)...), list(s)) {
			t.Error(s)
		}
	}
	for _, c := range [][2]string{
		{"a", ""}, {"a", "b"}, {"a=1", "a=2"}, {"a=1", "a"}, {"a b", "a"}, {"a b", "b"}, {"a b c", "a b d"}, {"a b=1 c", "a b=2 c"}, {"a=b", "b=a"},
	} {
		if Same(list(c[0]), list(c[1])) || Same(list(c[1]), list(c[0])) {
			t.Error(c)
		}
	}
	if !Same(many(32), many(32)) || Same(many(32), many(31)) || Same(many(33)[1:], many(32)) {
		t.Error("maps of many files")
	}
}

// model is what a map is said to be, in the language's own kind of map.
type model map[string]string

func (m model) list() []api.File {
	var l []api.File
	for _, name := range slices.Sorted(maps.Keys(m)) {
		l = append(l, api.File{Name: name, Text: m[name]})
	}
	return l
}

func (m model) diff(o model) []string {
	var names []string
	for name, s := range m {
		if other, has := o[name]; !has || other != s {
			names = append(names, name)
		}
	}
	for name := range o {
		if _, has := m[name]; !has {
			names = append(names, name)
		}
	}
	slices.Sort(names)
	return names
}

// someText is empty now and then.
func someText(r *rand.Rand) string {
	return strings.Repeat("x", r.Intn(3))
}

// somePairs are maps of which most names are in both.
func somePairs(r *rand.Rand) (model, model) {
	a, b := model{}, model{}
	names := 1 + r.Intn(50)
	for range r.Intn(60) {
		m := a
		if r.Intn(2) == 0 {
			m = b
		}
		name, text := "n"+strconv.Itoa(r.Intn(names)), someText(r)
		if _, has := m[name]; has || len(m) < 32 {
			m[name] = text
		}
	}
	return a, b
}

// P2.1 to P2.4, against the model.
func TestAgainstModel(t *testing.T) {
	r := rand.New(rand.NewSource(2))
	for range 5000 {
		a, b := somePairs(r)
		la, lb := a.list(), b.list()
		if !Right(la) || !Right(lb) {
			t.Fatal(la, lb)
		}
		d := Diff(la, lb)
		if !slices.Equal(d, a.diff(b)) || Same(la, lb) != (len(d) == 0) {
			t.Fatal(la, lb, d)
		}
		both := maps.Clone(a)
		maps.Copy(both, b)
		m, e := Merge(la, lb)
		if len(both) > 32 {
			if e != api.ErrBig || len(m) != 0 {
				t.Fatal(la, lb, m, e)
			}
			continue
		}
		if e != api.OK || !equal(m, both.list()) || !Right(m) {
			t.Fatal(la, lb, m, e)
		}
		for name, text := range b {
			if s, has := Get(m, name); s != text || !has {
				t.Fatal(m, name, s, has)
			}
		}
	}
}

// P2.4: what is put is got, and the others stay.
func TestPutThenGet(t *testing.T) {
	r := rand.New(rand.NewSource(4))
	l, m := []api.File(nil), model{}
	for range 20000 {
		f := api.File{Name: strconv.Itoa(r.Intn(40)), Text: someText(r)}
		_, had := m[f.Name]
		if r.Intn(4) == 0 {
			less, was := Drop(l, f.Name)
			if was != had {
				t.Fatal(f, was)
			}
			delete(m, f.Name)
			l = less
		} else if more, e := Put(l, f); had || len(m) < 32 {
			if s, has := Get(more, f.Name); e != api.OK || s != f.Text || !has {
				t.Fatal(f, more, e)
			}
			m[f.Name] = f.Text
			l = more
		} else if e != api.ErrBig || len(more) != 0 {
			t.Fatal(f, more, e)
		}
		if !equal(l, m.list()) || !Right(l) {
			t.Fatal(l, m)
		}
	}
}

// P2.4: in which order files of unlike names are put makes no difference.
func TestOrderOfPuts(t *testing.T) {
	r := rand.New(rand.NewSource(5))
	for n := range 33 {
		for range 20 {
			var l []api.File
			for _, i := range r.Perm(n) {
				more, e := Put(l, many(32)[i])
				if e != api.OK {
					t.Fatal(n, i, e)
				}
				l = more
			}
			if !Same(l, many(n)) || len(Diff(l, many(n))) != 0 || !equal(l, many(n)) {
				t.Fatal(n, l)
			}
		}
	}
}

// roomy is a map with room behind it, and before it, that must stay as it is.
func roomy(n int) (whole, l []api.File) {
	whole = make([]api.File, n+20)
	for i := range whole {
		whole[i] = api.File{Name: "room", Text: strconv.Itoa(i)}
	}
	copy(whole[10:], many(n))
	return whole, whole[10 : 10+n]
}

// spoil writes over a list, and over its spare room.
func spoil[T any](l []T, with T) {
	l = l[:cap(l)]
	for i := range l {
		l[i] = with
	}
}

// R4: nothing that was handed in is changed, and what is answered shares no memory with it.
func TestMemory(t *testing.T) {
	bad := api.File{Name: "spoiled", Text: "spoiled"}
	calls := map[string]func(a, b []api.File){
		"put first":  func(a, b []api.File) { l, _ := Put(a, api.File{Name: "a"}); spoil(l, bad) },
		"put last":   func(a, b []api.File) { l, _ := Put(a, api.File{Name: "z"}); spoil(l, bad) },
		"put within": func(a, b []api.File) { l, _ := Put(a, api.File{Name: "f101-"}); spoil(l, bad) },
		"put again":  func(a, b []api.File) { l, _ := Put(a, api.File{Name: "f101", Text: "new"}); spoil(l, bad) },
		"put same":   func(a, b []api.File) { l, _ := Put(a, many(2)[1]); spoil(l, bad) },
		"put wrong":  func(a, b []api.File) { l, _ := Put(a, api.File{}); spoil(l, bad) },
		"drop first": func(a, b []api.File) { l, _ := Drop(a, "f100"); spoil(l, bad) },
		"drop last":  func(a, b []api.File) { l, _ := Drop(a, many(32)[max(0, len(a)-1)].Name); spoil(l, bad) },
		"drop none":  func(a, b []api.File) { l, _ := Drop(a, "x"); spoil(l, bad) },
		"merge":      func(a, b []api.File) { l, _ := Merge(a, b); spoil(l, bad) },
		"merge none": func(a, b []api.File) { l, _ := Merge(a, nil); spoil(l, bad) },
		"merge into": func(a, b []api.File) { l, _ := Merge(nil, b); spoil(l, bad) },
		"merge self": func(a, b []api.File) { l, _ := Merge(a, a); spoil(l, bad) },
		"diff":       func(a, b []api.File) { spoil(Diff(a, b), "spoiled") },
		"tell":       func(a, b []api.File) { Right(a); Same(a, b); Get(a, "f101"); Get(b, "x") },
	}
	for name, call := range calls {
		for _, n := range []int{0, 1, 2, 31, 32} {
			for _, k := range []int{0, 1, 3, 32} {
				wholeA, a := roomy(n)
				wholeB, b := roomy(k)
				keptA, keptB := slices.Clone(wholeA), slices.Clone(wholeB)
				call(a, b)
				if !slices.Equal(wholeA, keptA) || !slices.Equal(wholeB, keptB) {
					t.Error(name, n, k)
				}
			}
		}
	}
}

// R4: an answer is not kept either: spoiling it spoils no later one.
func TestAnswersAreNotKept(t *testing.T) {
	l := list("a=1 b=2")
	first, _ := Merge(l, nil)
	second, _ := Merge(l, nil)
	spoil(first, api.File{})
	if !equal(second, l) {
		t.Error(second)
	}
	d, k := Diff(l, nil), Diff(l, nil)
	spoil(d, "x")
	if !slices.Equal(k, []string{"a", "b"}) {
		t.Error(k)
	}
}

// R3: a nil list and an empty one are the same.
func TestNilAndEmpty(t *testing.T) {
	none, empty := []api.File(nil), []api.File{}
	if !Same(none, empty) || !Same(empty, none) || !Right(none) || !Right(empty) || len(Diff(none, empty)) != 0 {
		t.Error("they differ")
	}
	for _, l := range [][]api.File{none, empty} {
		if m, e := Put(l, api.File{Name: "a"}); e != api.OK || !equal(m, list("a")) {
			t.Error(m, e)
		}
		if m, was := Drop(l, "a"); was || len(m) != 0 {
			t.Error(m, was)
		}
		if m, e := Merge(l, empty); e != api.OK || len(m) != 0 {
			t.Error(m, e)
		}
	}
}
