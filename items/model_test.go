package items_test

import (
	"math/rand"
	"regexp"
	"slices"
	"strconv"
	"strings"
	"testing"

	"stet/api"
	"stet/items"
	"stet/lex"
)

var keyText = regexp.MustCompile(`^[^ ]+( [^ ]+)*$`)

// modelParse is a second telling of the document's words: what is to come is cut from ahead, each Word is an item by itself, and Texts are put together in the end.
func modelParse(l []lex.Token) ([]items.Item, []api.Note) {
	var each []items.Item
	var notes []api.Note
	for len(l) > 0 {
		t := l[0]
		l = l[1:]
		switch t.Kind {
		case 1, 2, 3:
			each = append(each, items.Item{Kind: t.Kind, S: strings.Repeat(t.S, 2-min(t.Kind, 2))})
		case 4:
			item, rest, e := modelCommand(t.S, l)
			l = rest
			if e != api.OK {
				notes = append(notes, api.Note{Err: e, S: t.S})
			} else {
				each = append(each, item)
			}
		}
	}
	return together(each), notes
}

func modelCommand(name string, l []lex.Token) (items.Item, []lex.Token, api.Errno) {
	if n := slices.Index(bare, name); n >= 0 {
		return items.Item{Kind: 14 + n}, l, api.OK
	}
	n := slices.Index(grouped, name)
	if n < 0 {
		return items.Item{}, l, api.ErrWord
	}
	within, rest, is := modelGroup(l)
	if !is {
		return items.Item{}, l, api.ErrMacro
	}
	s := modelFlat(within)
	if len(s) < 1 || len(s) > 60 {
		return items.Item{}, rest, api.ErrName
	}
	return items.Item{Kind: 4 + n, S: s}, rest, api.OK
}

// modelGroup is what stands within the group that comes next, and what stands behind it.
func modelGroup(l []lex.Token) ([]lex.Token, []lex.Token, bool) {
	for len(l) > 0 && l[0].Kind == 2 {
		l = l[1:]
	}
	deep := 0
	for i, t := range l {
		switch t.Kind {
		case 5:
			deep++
		case 6:
			deep--
		}
		if deep <= 0 {
			return l[min(i, 1):i], l[i+1:], deep == 0 && i > 0
		}
	}
	return nil, nil, false
}

func modelFlat(l []lex.Token) string {
	s := ""
	for _, t := range l {
		switch t.Kind {
		case 1:
			s += t.S
		case 2, 3:
			s += " "
		}
	}
	parts := slices.DeleteFunc(strings.Split(s, " "), func(s string) bool { return s == "" })
	return strings.Join(parts, " ")
}

// together are items in which Texts behind one another are one, and those without a byte none.
func together(each []items.Item) []items.Item {
	var l []items.Item
	for len(each) > 0 {
		s := ""
		for len(each) > 0 && each[0].Kind == 1 {
			s += each[0].S
			each = each[1:]
		}
		if s != "" {
			l = append(l, items.Item{Kind: 1, S: s})
		}
		if len(each) > 0 {
			l = append(l, each[0])
			each = each[1:]
		}
	}
	return l
}

func modelRight(l []items.Item) bool {
	behind := 0
	for _, x := range l {
		is := false
		switch {
		case x.Kind == 1:
			is = len(x.S) > 0 && behind != 1
		case x.Kind >= 4 && x.Kind <= 13:
			is = len(x.S) <= 60 && keyText.MatchString(x.S)
		case x.Kind >= 2 && x.Kind <= 16:
			is = len(x.S) == 0
		}
		if !is {
			return false
		}
		behind = x.Kind
	}
	return true
}

func modelShow(l []items.Item) []lex.Token {
	var all []lex.Token
	for _, x := range l {
		switch {
		case x.Kind < 1 || x.Kind > 16:
		case x.Kind == 1:
			all = append(all, lex.Token{Kind: 1, S: x.S})
		case x.Kind < 4:
			all = append(all, lex.Token{Kind: x.Kind})
		case x.Kind < 14:
			all = append(all, lex.Token{Kind: 4, S: grouped[x.Kind-4]}, lex.Token{Kind: 5}, lex.Token{Kind: 1, S: x.S}, lex.Token{Kind: 6})
		default:
			all = append(all, lex.Token{Kind: 4, S: bare[x.Kind-14]})
		}
	}
	return all
}

// checkParse holds what is parsed of tokens against the model, and against P9.3.
func checkParse(t *testing.T, l []lex.Token) ([]items.Item, []api.Note) {
	t.Helper()
	said, notes := items.Parse(l)
	is, wrong := modelParse(l)
	if !slices.Equal(said, is) || !slices.Equal(notes, wrong) {
		t.Fatalf("%v:\n     %v, %v\nwant %v, %v", l, said, notes, is, wrong)
	}
	if !items.Right(said) {
		t.Fatalf("%v: %v is not right", l, said)
	}
	if again, notes := items.Parse(items.Show(said)); !slices.Equal(again, said) || len(notes) != 0 {
		t.Fatalf("%v: %v, and of what is shown %v, %v", l, said, again, notes)
	}
	return said, notes
}

// checkItems holds Right and Show of items against the model, and against P9.3, both ways.
func checkItems(t *testing.T, l []items.Item) bool {
	t.Helper()
	right, shown := items.Right(l), items.Show(l)
	if right != modelRight(l) || !slices.Equal(shown, modelShow(l)) {
		t.Fatalf("%v:\n     %v, %v\nwant %v, %v", l, right, shown, modelRight(l), modelShow(l))
	}
	said, notes := checkParse(t, shown)
	if is := slices.Equal(said, l) && len(notes) == 0; is != right {
		t.Fatalf("%v: right %v, and of what is shown %v, %v", l, right, said, notes)
	}
	return right
}

// lists does something with all lists of up to n pieces; they have the same room.
func lists[T any](pieces []T, n int, do func([]T)) {
	list := make([]T, n)
	var fill func(int)
	fill = func(at int) {
		do(list[:at:at])
		if at == n {
			return
		}
		for _, p := range pieces {
			list[at] = p
			fill(at + 1)
		}
	}
	fill(0)
}

// P9.1, P9.3: all short lists of these tokens.
func TestModelShort(t *testing.T) {
	command := func(s string) lex.Token { return lex.Token{Kind: lex.Command, S: s} }
	space, par, open, end := lex.Token{Kind: lex.Space}, lex.Token{Kind: lex.Par}, lex.Token{Kind: lex.Open}, lex.Token{Kind: lex.Close}
	few := []lex.Token{word("a"), space, command("ref"), open, end, command("foo")}
	many := slices.Concat(few, []lex.Token{par, word(""), word(" "), {Kind: lex.Param, S: "1"}, command("toc"), command("sub"), {}, word(strings.Repeat("x", 60))})
	lists(few, 7, func(l []lex.Token) { checkParse(t, l) })
	lists(many, 4, func(l []lex.Token) { checkParse(t, l) })
	// A group that is there, so that more of the lists have items.
	lists(many, 4, func(l []lex.Token) {
		checkParse(t, slices.Concat([]lex.Token{command("ref"), open}, l, []lex.Token{end}))
	})
}

// P9.2, P9.3: all short lists of these items.
func TestModelItemsShort(t *testing.T) {
	pieces := itemsOf(t, "text a; text ; text  ; gap; gap x; para; ref k; ref ; ref  k; ref k  l; sub k l; toc; toc x")
	pieces = append(pieces, items.Item{}, items.Item{Kind: items.Kinds, S: "x"}, items.Item{Kind: items.Cite, S: strings.Repeat("x", 60)}, items.Item{Kind: items.Cite, S: strings.Repeat("x", 61)})
	right := 0
	lists(pieces, 4, func(l []items.Item) {
		if checkItems(t, l) {
			right++
		}
	})
	// Eight of the pieces are right, two of them Texts, that stand behind none.
	if right != 1+8+60+456+3456 {
		t.Errorf("%d are right", right)
	}
}

// P9.2, P9.3: all items with a short text of blanks and other bytes, of all kinds.
func TestModelTexts(t *testing.T) {
	lists([]string{" ", "a", "\n"}, 6, func(l []string) {
		s := strings.Join(l, "")
		for kind := -1; kind < 20; kind++ {
			checkItems(t, []items.Item{{Kind: kind, S: s}})
		}
	})
	lists([]string{" ", "a", strings.Repeat("x", 29)}, 5, func(l []string) {
		s := strings.Join(l, "")
		for _, kind := range []int{items.Text, items.Head, items.Bib} {
			checkItems(t, []items.Item{{Kind: kind, S: s}})
		}
	})
}

// oneOf is one of some things.
func oneOf[T any](r *rand.Rand, l ...T) T { return l[r.Intn(len(l))] }

// chooser makes random tokens and items.
type chooser struct{ *rand.Rand }

// text has few bytes, or about as many as a key may have.
func (r chooser) text() string {
	var b strings.Builder
	n := r.Intn(6)
	if r.Intn(6) == 0 {
		n = 56 + r.Intn(8)
	}
	for range n {
		b.WriteByte("abc xyz\n\t\\{\xff"[r.Intn(6+r.Intn(7))])
	}
	return b.String()
}

func (r chooser) command() string {
	switch r.Intn(8) {
	case 0:
		return oneOf(r.Rand, bare...)
	case 1:
		return oneOf(r.Rand, "foo", "", "sections", "Ref", "re", "printinde", "text", "subsub")
	}
	return oneOf(r.Rand, grouped...)
}

func (r chooser) token() lex.Token {
	switch r.Intn(12) {
	case 0, 1, 2:
		return word(r.text())
	case 3, 4:
		return lex.Token{Kind: lex.Space}
	case 5:
		return lex.Token{Kind: lex.Par}
	case 6, 7:
		return lex.Token{Kind: lex.Command, S: r.command()}
	case 8:
		return lex.Token{Kind: lex.Open}
	case 9:
		return lex.Token{Kind: lex.Close}
	case 10:
		return lex.Token{Kind: lex.Param, S: "1"}
	}
	return lex.Token{Kind: oneOf(r.Rand, odd...), S: r.text()}
}

// tokens are wild ones with groups among them, that a command mostly stands ahead of.
func (r chooser) tokens(deep int) []lex.Token {
	var l []lex.Token
	for range r.Intn(7) {
		if deep == 0 || r.Intn(2) == 0 {
			l = append(l, r.token())
			continue
		}
		if r.Intn(4) > 0 {
			l = append(l, lex.Token{Kind: lex.Command, S: r.command()})
		}
		if r.Intn(4) == 0 {
			l = append(l, r.token())
		}
		l = append(l, lex.Token{Kind: lex.Open})
		l = append(l, r.tokens(deep-1)...)
		l = append(l, lex.Token{Kind: lex.Close})
	}
	return l
}

// item is right by itself, or, if wild, anything.
func (r chooser) item(wild bool) items.Item {
	if wild && r.Intn(4) == 0 {
		return items.Item{Kind: oneOf(r.Rand, odd...), S: r.text()}
	}
	x := items.Item{Kind: 1 + r.Intn(16)}
	switch {
	case wild:
		x.S = oneOf(r.Rand, "", r.text())
	case x.Kind == items.Text:
		x.S = "t" + r.text()
	case x.Kind >= items.Head && x.Kind <= items.Bib:
		x.S = strings.Join(strings.Fields("k"+r.text()), " ")
		x.S = strings.TrimRight(x.S[:min(len(x.S), 60)], " ")
	}
	return x
}

// items are some in a row, of which wild are so many of a hundred.
func (r chooser) items(n, wild int) []items.Item {
	var l []items.Item
	for range n {
		x := r.item(r.Intn(100) < wild)
		if wild == 0 && len(l) > 0 && x.Kind == items.Text && l[len(l)-1].Kind == items.Text {
			continue
		}
		l = append(l, x)
	}
	return l
}

// P9.1, P9.3: long lists of any tokens; each note and each item must have come among them.
func TestModelLong(t *testing.T) {
	r := chooser{rand.New(rand.NewSource(91))}
	seen := map[string]int{}
	for range 20000 {
		l := slices.Concat(r.tokens(3), r.tokens(2))
		said, notes := checkParse(t, l)
		for _, n := range notes {
			seen[strconv.Itoa(int(n.Err))+" "+n.S]++
		}
		for _, x := range said {
			seen[kindNames[x.Kind-1]]++
			if len(x.S) == 60 {
				seen["60"]++
			}
		}
	}
	wanted := slices.Concat(kindNames, []string{"60", "11 foo", "11 ", "11 sections", "11 Ref", "11 subsub"})
	for _, name := range grouped {
		wanted = append(wanted, "10 "+name, "2 "+name)
	}
	for _, w := range wanted {
		if seen[w] < 50 {
			t.Errorf("of %q there are but %d", w, seen[w])
		}
	}
}

// P9.2, P9.3: long lists of right items, and of others.
func TestModelItemsLong(t *testing.T) {
	r := chooser{rand.New(rand.NewSource(92))}
	right := 0
	for i := range 20000 {
		wild := []int{0, 5, 50, 100}[i%4]
		if checkItems(t, r.items(r.Intn(30), wild)) {
			right++
		} else if wild == 0 {
			t.Fatal("tame items are not right")
		}
	}
	if right < 5000 || right > 15000 {
		t.Errorf("%d of 20000 are right", right)
	}
}

// P9.1, P9.3: the tokens of any bytes.
func TestModelBytes(t *testing.T) {
	r := chooser{rand.New(rand.NewSource(93))}
	bytes := "\\{}#%1x \nabk\x00\xff"
	for range 20000 {
		var b strings.Builder
		for range r.Intn(60) {
			switch r.Intn(5) {
			case 0:
				b.WriteString(`\` + r.command() + oneOf(r.Rand, "{", "{k}", " {a b}", ""))
			case 1:
				b.WriteString(oneOf(r.Rand, "a b", "{k}", "{", "}", "#1", `\toc`, "%\n", "\n\n"))
			default:
				b.WriteByte(bytes[r.Intn(len(bytes))])
			}
		}
		said, _ := checkParse(t, lex.Lex(b.String()))
		checkItems(t, said)
	}
}

// roomy is a list with room behind it, and all of that room, in which there is something.
func roomy[T any](l []T, behind T, n int) ([]T, []T) {
	all := slices.Clone(l)
	for range n {
		all = append(all, behind)
	}
	all = all[:len(all):len(all)]
	return all[:len(l)], all
}

// spoil puts something into a list, and into the room behind it.
func spoil[T any](l []T, with T) {
	l = l[:cap(l)]
	for i := range l {
		l[i] = with
	}
}

// R4: Parse leaves what it was handed in as it was, and what it answers is new memory.
func TestParseMemory(t *testing.T) {
	r := chooser{rand.New(rand.NewSource(94))}
	badToken, badItem, badNote := lex.Token{Kind: lex.Command, S: "spoiled"}, items.Item{Kind: items.Text, S: "spoiled"}, api.Note{Err: api.ErrRule, S: "spoiled"}
	for range 3000 {
		l, all := roomy(slices.Concat(r.tokens(3), r.tokens(1)), oneOf(r.Rand, badToken, word("w"), lex.Token{Kind: lex.Close}), r.Intn(40))
		was := slices.Clone(all)
		is, wrong := modelParse(l)
		said, notes := items.Parse(l)
		other, others := items.Parse(l)
		if !slices.Equal(all, was) {
			t.Fatalf("%v: now %v", was, all)
		}
		spoil(other, badItem)
		if !slices.Equal(said, is) || !slices.Equal(others, wrong) {
			t.Fatalf("%v: what is changed in the items is seen elsewhere", l)
		}
		spoil(others, badNote)
		if !slices.Equal(notes, wrong) || !slices.Equal(all, was) {
			t.Fatalf("%v: what is changed in an answer is seen elsewhere", l)
		}
		again, _ := items.Parse(l)
		// What is put behind an answer goes nowhere else.
		_ = append(said, badItem, badItem)
		_ = append(notes, badNote)
		if !slices.Equal(again, is) || !slices.Equal(said, is) || !slices.Equal(all, was) {
			t.Fatalf("%v: what is put behind an answer is seen elsewhere", l)
		}
		spoil(all, badToken)
		if !slices.Equal(said, is) || !slices.Equal(notes, wrong) {
			t.Fatalf("%v: the answer goes with what was handed in", was)
		}
	}
}

// R4: so do Right and Show.
func TestItemsMemory(t *testing.T) {
	r := chooser{rand.New(rand.NewSource(95))}
	badToken, badItem := lex.Token{Kind: lex.Command, S: "spoiled"}, items.Item{Kind: items.Text, S: "spoiled"}
	for i := range 3000 {
		l, all := roomy(r.items(r.Intn(20), []int{0, 30}[i%2]), oneOf(r.Rand, badItem, items.Item{}), r.Intn(40))
		was := slices.Clone(all)
		is, right := modelShow(l), modelRight(l)
		shown, other := items.Show(l), items.Show(l)
		if items.Right(l) != right || !slices.Equal(all, was) {
			t.Fatalf("%v: now %v", was, all)
		}
		spoil(other, badToken)
		_ = append(shown, badToken, badToken)
		if !slices.Equal(shown, is) || !slices.Equal(all, was) || !slices.Equal(items.Show(l), is) || items.Right(l) != right {
			t.Fatalf("%v: what is changed in an answer is seen elsewhere", l)
		}
		spoil(all, badItem)
		if !slices.Equal(shown, is) {
			t.Fatalf("%v: the answer goes with what was handed in", was)
		}
	}
}

// R5: what is answered hangs on nothing but what is handed in, whatever else was asked, and in which order a map is gone through.
func TestSameAnswers(t *testing.T) {
	r := chooser{rand.New(rand.NewSource(96))}
	var all [][]lex.Token
	for range 300 {
		all = append(all, slices.Concat(items.Show(r.items(9, 20)), r.tokens(3)))
	}
	var said [][]items.Item
	var notes [][]api.Note
	for _, l := range all {
		a, b := items.Parse(l)
		said, notes = append(said, a), append(notes, b)
	}
	for range 30 {
		for _, i := range r.Perm(len(all)) {
			a, b := items.Parse(all[i])
			if !slices.Equal(a, said[i]) || !slices.Equal(b, notes[i]) {
				t.Fatalf("%v: %v, %v, and then %v, %v", all[i], said[i], notes[i], a, b)
			}
			if !items.Right(a) || !slices.Equal(items.Show(a), modelShow(a)) {
				t.Fatalf("%v: %v, shown %v", a, items.Right(a), items.Show(a))
			}
		}
	}
}

// R1: long lists of what never ends, and of what is deep within, are told, too.
func TestLongTokens(t *testing.T) {
	command, open, end := lex.Token{Kind: lex.Command, S: "ref"}, lex.Token{Kind: lex.Open}, lex.Token{Kind: lex.Close}
	for _, x := range []struct {
		pieces      []lex.Token
		said, notes int
	}{
		{[]lex.Token{command}, 0, 20000},
		{[]lex.Token{command, open}, 0, 10000},
		{[]lex.Token{command, {Kind: lex.Space}}, 10000, 10000},
		{[]lex.Token{command, open, word("k"), end}, 5000, 0},
		{[]lex.Token{open}, 0, 0},
		{[]lex.Token{end}, 0, 0},
		{[]lex.Token{word("a")}, 1, 0},
		{[]lex.Token{{Kind: lex.Command, S: "foo"}}, 0, 20000},
	} {
		l := slices.Repeat(x.pieces, 20000/len(x.pieces))
		if said, notes := items.Parse(l); len(said) != x.said || len(notes) != x.notes {
			t.Errorf("%v: %d items, %d notes", x.pieces, len(said), len(notes))
		}
	}
	deep := slices.Concat([]lex.Token{command}, slices.Repeat([]lex.Token{open}, 10000), []lex.Token{word("k")}, slices.Repeat([]lex.Token{end}, 10000))
	want{"", "ref k", ""}.checkOf(t, deep)
	want{"", "text k", "macro ref"}.checkOf(t, deep[:len(deep)-1])
}
