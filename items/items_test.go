package items_test

import (
	"math"
	"slices"
	"strings"
	"testing"

	"stet/api"
	"stet/items"
	"stet/lex"
)

// grouped are the commands with a group, and bare those without one, each in the order of the kinds.
var (
	grouped = []string{"section", "sub", "label", "ref", "pageref", "cite", "index", "step", "value", "bib"}
	bare    = []string{"toc", "printindex", "newpage"}
)

// kindNames are what tests call the kinds, in their order.
var kindNames = strings.Fields("text gap para head sub label ref page cite index step value bib toc print break")

// odd are kinds that there are not, of tokens as of items.
var odd = []int{math.MinInt, math.MinInt32, -256, -2, -1, 0, 17, 18, 99, 256 + items.Text, 1 << 32, 1<<32 + items.Text, math.MaxInt}

// word is a token of the kind Word.
func word(s string) lex.Token { return lex.Token{Kind: lex.Word, S: s} }

// tokens are those of texts with bars between, each text by itself, so that a Word may stand behind a Word; a text ~ is a Word without a byte.
func tokens(s string) []lex.Token {
	var l []lex.Token
	for _, piece := range strings.Split(s, "|") {
		if piece == "~" {
			l = append(l, word(""))
		} else {
			l = append(l, lex.Lex(piece)...)
		}
	}
	return l
}

// itemsOf are those of texts such as "text a; gap; ref k l".
func itemsOf(t testing.TB, s string) []items.Item {
	t.Helper()
	var l []items.Item
	for _, one := range strings.Split(s, "; ") {
		name, what, _ := strings.Cut(one, " ")
		if name == "" {
			continue
		}
		kind := slices.Index(kindNames, name) + 1
		if kind == 0 {
			t.Fatalf("item %q", one)
		}
		l = append(l, items.Item{Kind: kind, S: what})
	}
	return l
}

// notesOf are those of texts such as "macro ref; word foo".
func notesOf(t testing.TB, s string) []api.Note {
	t.Helper()
	numbers := map[string]api.Errno{"name": api.ErrName, "macro": api.ErrMacro, "word": api.ErrWord}
	var l []api.Note
	for _, one := range strings.Split(s, "; ") {
		what, of, _ := strings.Cut(one, " ")
		if what == "" {
			continue
		}
		e, is := numbers[what]
		if !is {
			t.Fatalf("note %q", one)
		}
		l = append(l, api.Note{Err: e, S: of})
	}
	return l
}

// want are tokens, told by texts, and what Parse should tell of them.
type want struct{ tokens, said, notes string }

func (w want) check(t *testing.T) {
	t.Helper()
	w.checkOf(t, tokens(w.tokens))
}

// checkOf does so with tokens that no texts tell.
func (w want) checkOf(t *testing.T, l []lex.Token) {
	t.Helper()
	said, notes := items.Parse(l)
	if !slices.Equal(said, itemsOf(t, w.said)) || !slices.Equal(notes, notesOf(t, w.notes)) {
		t.Errorf("%v:\n     %v, %v\nwant %q, %s", l, said, notes, w.said, w.notes)
	}
	if !items.Right(said) {
		t.Errorf("%v: %v is not right", l, said)
	}
}

func checkAll(t *testing.T, l []want) {
	t.Helper()
	for _, w := range l {
		w.check(t)
	}
}

// The numbers of kinds are part of the package's face.
func TestKinds(t *testing.T) {
	kinds := []int{items.Text, items.Gap, items.Para, items.Head, items.Sub, items.Label, items.Ref, items.Page, items.Cite, items.Index, items.Step, items.Value, items.Bib, items.Toc, items.Print, items.Break, items.Kinds}
	for i, k := range kinds {
		if k != i+1 {
			t.Errorf("kind %d is %d", i+1, k)
		}
	}
	if len(kinds) != len(kindNames)+1 {
		t.Errorf("%d kinds, %d names", len(kinds), len(kindNames))
	}
}

// P9.1, P9.2, R3: no tokens and no items, nil and empty.
func TestNothing(t *testing.T) {
	for _, l := range [][]lex.Token{nil, {}, make([]lex.Token, 0, 9)} {
		if said, notes := items.Parse(l); len(said) != 0 || len(notes) != 0 {
			t.Errorf("%v: %v, %v", l, said, notes)
		}
	}
	for _, l := range [][]items.Item{nil, {}, make([]items.Item, 0, 9)} {
		if shown := items.Show(l); !items.Right(l) || len(shown) != 0 {
			t.Errorf("%v: %v, %v", l, items.Right(l), shown)
		}
	}
}

// P9.1: Words, and what goes into a Text.
func TestWords(t *testing.T) {
	checkAll(t, []want{
		{"a", "text a", ""},
		{"~", "", ""},
		{"~|~|~", "", ""},
		{"~|a", "text a", ""},
		{"a|~", "text a", ""},
		{"a|~|b", "text ab", ""},
		{"~| |~", "gap", ""},
		{" |~|a", "gap; text a", ""},
		{`a|\toc|~|b`, "text a; toc; text b", ""},
		{`\ref{k}|~`, "ref k", ""},
		{"a| |~| |b", "text a; gap; gap; text b", ""},
		{"a|b", "text ab", ""},
		{"a|b|c|d|e", "text abcde", ""},
		{"ab|ab|ab", "text ababab", ""},
		{"a|b| |c|d", "text ab; gap; text cd", ""},
		{"a|b| |c|d|\n\n|e|f", "text ab; gap; text cd; para; text ef", ""},
		{"{a", "text a", ""},
		{"a{b", "text ab", ""},
		{"a}b", "text ab", ""},
		{"a{b}c", "text abc", ""},
		{"a{{}}b", "text ab", ""},
		{"a#1b", "text ab", ""},
		{"a{#1|b}|c#9|~|d}", "text abcd", ""},
		{"a{ }b", "text a; gap; text b", ""},
		{`a{\ref{k}}b`, "text a; ref k; text b", ""},
		{`\ `, "text  ", ""},
		{"\\ \\ |\\\t\\\n\\{", "text   \t\n{", ""},
		{`a\ \ b`, "text a  b", ""},
		{strings.Repeat("x", 61), "text " + strings.Repeat("x", 61), ""},
		{strings.Repeat("x|", 500) + " y", "text " + strings.Repeat("x", 500) + "; gap; text y", ""},
	})
}

// P9.1: an answer's Texts are whole, however many Words they are made of.
func TestLongText(t *testing.T) {
	piece := strings.Repeat("w", 999) + "."
	var l []lex.Token
	for range 2000 {
		l = append(l, word(piece))
	}
	l = append(slices.Concat(l, []lex.Token{{Kind: lex.Space}}, l), lex.Token{Kind: lex.Par}, word("z"))
	all := strings.Repeat(piece, 2000)
	said, notes := items.Parse(l)
	is := []items.Item{{Kind: items.Text, S: all}, {Kind: items.Gap}, {Kind: items.Text, S: all}, {Kind: items.Para}, {Kind: items.Text, S: "z"}}
	if !slices.Equal(said, is) || len(notes) != 0 {
		t.Errorf("%d items, %v", len(said), notes)
	}
}

// P9.1: Spaces and Pars stay each by itself.
func TestGaps(t *testing.T) {
	checkAll(t, []want{
		{" ", "gap", ""},
		{"\n\n", "para", ""},
		{" | | ", "gap; gap; gap", ""},
		{"\n\n|\n\n", "para; para", ""},
		{" |\n\n| ", "gap; para; gap", ""},
		{"a| | |b", "text a; gap; gap; text b", ""},
		{"a b\n\nc", "text a; gap; text b; para; text c", ""},
		{" a ", "gap; text a; gap", ""},
		{`\toc \toc`, "toc; gap; toc", ""},
	})
	for _, s := range []string{"", "x", " ", "\n\n"} {
		l := []lex.Token{{Kind: lex.Space, S: s}, {Kind: lex.Par, S: s}}
		want{"", "gap; para", ""}.checkOf(t, l)
	}
}

// P9.1: each command, with its group.
func TestCommands(t *testing.T) {
	checkAll(t, []want{
		{`\section{A B}`, "head A B", ""},
		{`\sub{A}`, "sub A", ""},
		{`\label{k}`, "label k", ""},
		{`\ref{k}`, "ref k", ""},
		{`\pageref{k}`, "page k", ""},
		{`\cite{k}`, "cite k", ""},
		{`\index{k}`, "index k", ""},
		{`\step{k}`, "step k", ""},
		{`\value{k}`, "value k", ""},
		{`\bib{k}`, "bib k", ""},
		{`\toc`, "toc", ""},
		{`\printindex`, "print", ""},
		{`\newpage`, "break", ""},
		{`\toc{a}`, "toc; text a", ""},
		{`\printindex{a}b`, "print; text ab", ""},
		{`\newpage {a}`, "break; gap; text a", ""},
		{`\toc{`, "toc", ""},
		{`\toc}`, "toc", ""},
		{`\toc{\ref{k}}`, "toc; ref k", ""},
		{`\toc\toc\newpage`, "toc; toc; break", ""},
		{`a\ref{k}.`, "text a; ref k; text .", ""},
		{`\bib{a}\bib{a}`, "bib a; bib a", ""},
	})
	// Right items of all kinds come in their order, whichever it is.
	checkAll(t, []want{
		{`\section{a}\sub{b}\label{c}\ref{d}\pageref{e}\cite{f}\index{g}\step{h}\value{i}\bib{j}\toc\printindex\newpage k l` + "\n\n",
			"head a; sub b; label c; ref d; page e; cite f; index g; step h; value i; bib j; toc; print; break; gap; text k; gap; text l; para", ""},
		{"\n\nl k|\\newpage\\printindex\\toc\\bib{j}\\value{i}\\step{h}\\index{g}\\cite{f}\\pageref{e}\\ref{d}\\label{c}\\sub{b}\\section{a}",
			"para; text l; gap; text k; break; print; toc; bib j; value i; step h; index g; cite f; page e; ref d; label c; sub b; head a", ""},
	})
}

// kindOf is what tests call the kind of a command with a group.
func kindOf(command string) string {
	return kindNames[items.Head-1+slices.Index(grouped, command)]
}

// P9.1: groups, which are the same for all commands that have one; C stands for the command, and K for its kind.
func TestGroups(t *testing.T) {
	long, longer := strings.Repeat("x", 60), strings.Repeat("x", 61)
	all := []want{
		{`\C`, "", "macro C"},
		{`a\C`, "text a", "macro C"},
		{`\C a`, "gap; text a", "macro C"},
		{`\C|a`, "text a", "macro C"},
		{`\C `, "gap", "macro C"},
		{`\C}`, "", "macro C"},
		{`\C}{k}`, "text k", "macro C"},
		{`\C#1{k}`, "text k", "macro C"},
		{`\C{`, "", "macro C"},
		{`\C{k`, "text k", "macro C"},
		{`\C{k{l}`, "text kl", "macro C"},
		{`\C{{k}`, "text k", "macro C"},
		{`\C {k `, "gap; text k; gap", "macro C"},
		{`\C{k}`, "K k", ""},
		{`\C{k}}`, "K k", ""},
		{`\C {k}`, "K k", ""},
		{`\C| | |{k}`, "K k", ""},
		{"\\C % remark {l}\n {k}", "K k", ""},
		{"\\C\n\n{k}", "para; text k", "macro C"},
		{"\\C| |\n\n|{k}", "gap; para; text k", "macro C"},
		{"\\C|~|{k}", "text k", "macro C"},
		{`\C{k}{l}`, "K k; text l", ""},
		{`\C{k}m{l}`, "K k; text ml", ""},
		{`\C{k} {l}`, "K k; gap; text l", ""},
		{`\C{{k}}`, "K k", ""},
		{`\C{a{b}c}`, "K abc", ""},
		{`\C{a{ b {c}} d}e`, "K a b c d; text e", ""},
		{`\C{}`, "", "name C"},
		{`\C{}a`, "text a", "name C"},
		{`a\C{}b`, "text ab", "name C"},
		{`a\C{~}b`, "text a; K ~; text b", ""},
		{`a\C{|~|}b`, "text ab", "name C"},
		{`a\C {}{b}`, "text ab", "name C"},
		{`\C{ }`, "", "name C"},
		{"\\C{ | |\n\n| }", "", "name C"},
		{`\C{\ \ }`, "", "name C"},
		{`\C{{}{{}}}`, "", "name C"},
		{`\C{#1#2}`, "", "name C"},
		{`\C{\ref}`, "", "name C"},
		{`\C{\foo{}}`, "", "name C"},
		{`\C{ k }`, "K k", ""},
		{`\C{ k| | |l | m }`, "K k l m", ""},
		{"\\C{k\n\nl}", "K k l", ""},
		{"\\C{\n\nk\n\n}", "K k", ""},
		{`\C{k\ \ l}`, "K k l", ""},
		{`\C{k\  l}`, "K k l", ""},
		{`\C{\ k\ }`, "K k", ""},
		{"\\C{\\\tk\\\n}", "K \tk\n", ""},
		{"\\C{k\\\t\\\tl\\\n\\\nm}", "K k\t\tl\n\nm", ""},
		{`\C{\{\}\\\#\%}`, `K {}\#%`, ""},
		{`\C{k|l|~|m}`, "K klm", ""},
		{`\C{k#1l}`, "K kl", ""},
		{`\C{k\foo l}`, "K k l", ""},
		{`\C{k\foo{l}}`, "K kl", ""},
		{`\C{\C{k}}`, "K k", ""},
		{`\C{\label{}}a`, "text a", "name C"},
		{`\C{k\toc}`, "K k", ""},
		{`\C{k} \toc`, "K k; gap; toc", ""},
		{`\C\C{k}`, "K k", "macro C"},
		{`\C \C{k}`, "gap; K k", "macro C"},
		{`\C{\C{k}`, "K k", "macro C"},
		{`\C{` + long + `}`, "K " + long, ""},
		{`\C{ ` + long + ` }`, "K " + long, ""},
		{`\C{` + long[:59] + ` }`, "K " + long[:59], ""},
		{`\C{x| | |` + long[:58] + `}`, "K x " + long[:58], ""},
		{`\C{x| | |` + long[:59] + `}`, "", "name C"},
		{`a\C{` + longer + `}b`, "text ab", "name C"},
		{`\C{` + long + `|x}`, "", "name C"},
		{`\C{` + long + `{x}}`, "", "name C"},
		{`\C{` + strings.Repeat("xy|", 30) + `}`, "K " + strings.Repeat("xy", 30), ""},
		{`\C{` + strings.Repeat("xy", 2000) + `}`, "", "name C"},
		{`\C{` + strings.Repeat(" ", 100) + `}`, "", "name C"},
		{`\C{` + strings.Repeat("\xff\x00", 30) + `}`, "K " + strings.Repeat("\xff\x00", 30), ""},
		{`\C{` + strings.Repeat("\xc3\xa4", 30) + `}`, "K " + strings.Repeat("\xc3\xa4", 30), ""},
		{`\C{` + strings.Repeat("\xc3\xa4", 30) + `x}`, "", "name C"},
		{`\C{` + strings.Repeat("{", 99) + "k" + strings.Repeat("}", 100), "K k", ""},
	}
	for _, command := range grouped {
		for _, w := range all {
			want{strings.ReplaceAll(w.tokens, "C", command), strings.ReplaceAll(w.said, "K", kindOf(command)), strings.ReplaceAll(w.notes, "C", command)}.check(t)
		}
	}
}

// P9.1: commands that nobody knows; what stands behind them is not theirs.
func TestUnknown(t *testing.T) {
	checkAll(t, []want{
		{`\foo`, "", "word foo"},
		{`a\foo b`, "text a; gap; text b", "word foo"},
		{`a\foo|b`, "text ab", "word foo"},
		{`a\foo{b}c`, "text abc", "word foo"},
		{`\foo{`, "", "word foo"},
		{`\foo {b}`, "gap; text b", "word foo"},
		{`\foo{\ref{k}}`, "ref k", "word foo"},
		{`\foo\ref{k}`, "ref k", "word foo"},
		{`\foo\foo`, "", "word foo; word foo"},
		{`\text\gap\para\head\page\print\break\def\include`, "", "word text; word gap; word para; word head; word page; word print; word break; word def; word include"},
	})
	for _, known := range slices.Concat(grouped, bare) {
		upper := strings.ToUpper(known[:1]) + known[1:]
		for _, name := range []string{known + "s", known + known, known + "A", known[:len(known)-1], known[1:], "x" + known, upper, strings.ToUpper(known), known + " ", " " + known, known + "\x00", `\` + known, known + "{k}"} {
			l := slices.Concat(tokens("a"), []lex.Token{{Kind: lex.Command, S: name}}, tokens("{b}|c"))
			// Some of these commands are known by their own right.
			if slices.Contains(grouped, name) || slices.Contains(bare, name) {
				t.Fatalf("%q is a command", name)
			}
			want{"", "text abc", "word " + name}.checkOf(t, l)
		}
	}
	l := []lex.Token{word("a"), {Kind: lex.Command}, {Kind: lex.Open}, word("b"), {Kind: lex.Close}}
	want{"", "text ab", "word "}.checkOf(t, l)
}

// P9.1: all other tokens are nothing, whatever they say, R6: also of kinds that there are not.
func TestOtherTokens(t *testing.T) {
	kinds := slices.Concat(odd, []int{lex.Open, lex.Close, lex.Param, lex.Kinds, lex.Kinds + 1, items.Toc})
	for _, kind := range kinds {
		for _, s := range []string{"", "x", "1", "ref", "toc", " "} {
			other := lex.Token{Kind: kind, S: s}
			want{"", "", ""}.checkOf(t, []lex.Token{other})
			want{"", "", ""}.checkOf(t, []lex.Token{other, other})
			want{"", "text ab; gap; text c", ""}.checkOf(t, []lex.Token{other, word("a"), other, word("b"), {Kind: lex.Space}, other, word("c")})
			if kind == lex.Open || kind == lex.Close {
				continue
			}
			// Within a group they do not count; ahead of it they are none of the group's.
			want{"", "ref kl", ""}.checkOf(t, slices.Concat(tokens(`\ref{k`), []lex.Token{other}, tokens("l}")))
			want{"", "", "name ref"}.checkOf(t, slices.Concat(tokens(`\ref{`), []lex.Token{other}, tokens("}")))
			want{"", "text k", "macro ref"}.checkOf(t, slices.Concat(tokens(`\ref`), []lex.Token{other}, tokens("{k}")))
		}
	}
	// What Opens and Closes say makes no difference.
	want{"", "ref k; text a", ""}.checkOf(t, []lex.Token{{Kind: lex.Command, S: "ref"}, {Kind: lex.Open, S: "x"}, word("k"), {Kind: lex.Close, S: "x"}, word("a")})
}

// P9.1: items and notes come in order, each by itself; what stands behind a note is told.
func TestOrder(t *testing.T) {
	checkAll(t, []want{
		{`a\foo b\label`, "text a; gap; text b", "word foo; macro label"},
		{`\label\foo\ref{}`, "", "macro label; word foo; name ref"},
		{`\ref{}\foo\label`, "", "name ref; word foo; macro label"},
		{`\foo\bar\foo`, "", "word foo; word bar; word foo"},
		{`\ref{}a\ref{k}\cite{ }b\cite{l}\step`, "text a; ref k; text b; cite l", "name ref; name cite; macro step"},
		{`\ref{\foo}\bar{\foo}`, "", "name ref; word bar; word foo"},
		{`\ref{a\foo\label}b`, "ref a; text b", ""},
		{`\ref{\foo\label|a`, "text a", "macro ref; word foo; macro label"},
		{`\ref{\cite{k}\foo{b}`, "cite k; text b", "macro ref; word foo"},
		{"\\sub\n\n\\sub{}\n\n\\sub{a}", "para; para; sub a", "macro sub; name sub"},
		{`\step{a}\value{a}\step{a}\value{a}`, "step a; value a; step a; value a", ""},
	})
}

// allKinds are items of all kinds, all right.
func allKinds(t testing.TB) []items.Item {
	return itemsOf(t, "text a; gap; para; head b; sub c; label d; ref e; page f; cite g; index h; step i; value j k; bib l; toc; print; break; text m; gap; text n")
}

func checkRight(t *testing.T, l []items.Item, is bool) {
	t.Helper()
	if items.Right(l) != is {
		t.Errorf("%.200v: %v", l, !is)
	}
}

// keys are texts that items of commands with a group may have; noKeys are others.
func keys() []string {
	long := strings.Repeat("x", 60)
	return []string{
		"a", "0", "section", "a b", "a b c d", "\t", "\n", "\ta\n", "a\t\tb", "\n\n", "a \t b", "\x00", "\xff\xff", "\u00a0\u2003", `\{}#%`, `a\ b`,
		long[:59], long, strings.Repeat("x ", 29) + "xy", long[:30] + " " + long[:29], strings.Repeat("\xc3\xa4", 30), strings.Repeat("\n\n\t\t", 15), "x x\t",
	}
}

func noKeys() []string {
	long := strings.Repeat("x", 60)
	return []string{
		"", " ", "  ", " a", "a ", " a ", "a  b", "  a", "a  ", "a b  c", "a   b", " \t", "\t ", "\n  \n", "a" + strings.Repeat(" ", 9), strings.Repeat(" ", 9) + "a",
		long + "x", strings.Repeat("x ", 30), strings.Repeat("x ", 30) + "x", strings.Repeat("\xc3\xa4", 31), strings.Repeat("\n", 61),
		strings.Repeat("x", 1000), strings.Repeat("x", 256+1), strings.Repeat("x", 1<<16+1),
		strings.Repeat(" ", 60), long[:58] + "  ", "  " + long[:58], long[:29] + "  " + long[:29], " " + long[:58] + " ",
	}
}

// P9.2: Right, kind by kind.
func TestRight(t *testing.T) {
	check := func(kind int, s string, is bool) {
		t.Helper()
		item := items.Item{Kind: kind, S: s}
		checkRight(t, []items.Item{item}, is)
		checkRight(t, slices.Concat(allKinds(t), []items.Item{{Kind: items.Gap}, item}), is)
		checkRight(t, slices.Concat([]items.Item{item, {Kind: items.Gap}}, allKinds(t)), is)
	}
	all := slices.Concat(keys(), noKeys())
	for _, s := range all {
		check(items.Text, s, s != "")
		for _, kind := range []int{items.Gap, items.Para, items.Toc, items.Print, items.Break} {
			check(kind, s, s == "")
		}
	}
	for kind := items.Head; kind <= items.Bib; kind++ {
		for i, s := range all {
			check(kind, s, i < len(keys()))
		}
	}
}

// P9.2, R6: kinds that there are not are never right.
func TestRightOdd(t *testing.T) {
	for _, kind := range odd {
		for _, s := range []string{"", "a", " ", strings.Repeat("x", 60)} {
			item := items.Item{Kind: kind, S: s}
			checkRight(t, []items.Item{item}, false)
			checkRight(t, slices.Concat([]items.Item{item}, allKinds(t)), false)
			checkRight(t, slices.Concat(allKinds(t), []items.Item{{Kind: items.Toc}, item}), false)
			checkRight(t, slices.Concat(allKinds(t)[:5], []items.Item{item}, allKinds(t)[5:]), false)
		}
	}
}

// P9.2: Texts stand behind anything but a Text; all others behind anything.
func TestRightBehind(t *testing.T) {
	checkRight(t, allKinds(t), true)
	one := func(kind int) items.Item {
		item := items.Item{Kind: kind}
		if kind == items.Text || kind >= items.Head && kind <= items.Bib {
			item.S = "a"
		}
		return item
	}
	for a := items.Text; a < items.Kinds; a++ {
		for b := items.Text; b < items.Kinds; b++ {
			both := a == items.Text && b == items.Text
			checkRight(t, []items.Item{one(a), one(b)}, !both)
			checkRight(t, []items.Item{one(items.Gap), one(a), one(b), one(items.Toc)}, !both)
			checkRight(t, []items.Item{one(a), one(items.Para), one(b)}, true)
			checkRight(t, []items.Item{one(items.Text), one(a), one(items.Text)}, a != items.Text)
			checkRight(t, []items.Item{one(a), one(b), one(items.Text), one(items.Text)}, false)
			checkRight(t, []items.Item{one(items.Text), one(items.Text), one(a), one(b)}, false)
		}
	}
}

func checkShow(t *testing.T, l []items.Item, is []lex.Token) {
	t.Helper()
	if shown := items.Show(l); !slices.Equal(shown, is) {
		t.Errorf("%.200v:\n     %.200v\nwant %.200v", l, shown, is)
	}
}

// P9.2: Show, kind by kind, of items that are right and of others.
func TestShow(t *testing.T) {
	for _, s := range []string{"", "a", "a b", " ", " a ", "a  b", `\{}`, "\n\n", strings.Repeat("x", 60), strings.Repeat("x", 61), "\xff"} {
		var all []items.Item
		var shown []lex.Token
		check := func(kind int, is ...lex.Token) {
			t.Helper()
			checkShow(t, []items.Item{{Kind: kind, S: s}}, is)
			checkShow(t, []items.Item{{Kind: kind, S: s}, {Kind: kind, S: s}}, slices.Concat(is, is))
			all, shown = append(all, items.Item{Kind: kind, S: s}), append(shown, is...)
			checkShow(t, all, shown)
		}
		check(items.Text, word(s))
		check(items.Gap, lex.Token{Kind: lex.Space})
		check(items.Para, lex.Token{Kind: lex.Par})
		for i, name := range grouped {
			check(items.Head+i, lex.Token{Kind: lex.Command, S: name}, lex.Token{Kind: lex.Open}, word(s), lex.Token{Kind: lex.Close})
			check(odd[i])
		}
		for i, name := range bare {
			check(items.Toc+i, lex.Token{Kind: lex.Command, S: name})
		}
		check(items.Text, word(s))
		for _, kind := range odd {
			check(kind)
			check(items.Text, word(s))
		}
	}
}

// P9.2, P9.3: what is shown of items of all kinds is such a text.
func TestShowText(t *testing.T) {
	l := allKinds(t)
	shown := items.Show(l)
	is := "a \n\n" + `\section{b}\sub{c}\label{d}\ref{e}\pageref{f}\cite{g}\index{h}\step{i}\value{j\ k}\bib{l}\toc\printindex\newpage` + "m n"
	if s := lex.Text(shown); s != is {
		t.Errorf("%q", s)
	}
	if said, notes := items.Parse(shown); !slices.Equal(said, l) || len(notes) != 0 {
		t.Errorf("%v, %v", said, notes)
	}
}

// P9.3: what is told of items that are not right, is told otherwise.
func TestShowWrong(t *testing.T) {
	long := strings.Repeat("x", 61)
	for _, x := range []struct{ wrong, said, notes string }{
		{"text a; text b", "text ab", ""},
		{"text ", "", ""},
		{"text a; text ; text b", "text ab", ""},
		{"gap x; para x; toc x; print x; break x", "gap; para; toc; print; break", ""},
		{"ref ", "", "name ref"},
		{"ref  ", "", "name ref"},
		{"ref  a", "ref a", ""},
		{"cite a ", "cite a", ""},
		{"bib a  b", "bib a b", ""},
		{"step " + long, "", "name step"},
		{"step " + long[:60] + " ", "step " + long[:60], ""},
		{"text a; sub ; text b", "text ab", "name sub"},
	} {
		l := itemsOf(t, x.wrong)
		checkRight(t, l, false)
		want{"", x.said, x.notes}.checkOf(t, items.Show(l))
	}
	want{"", "text ab", ""}.checkOf(t, items.Show([]items.Item{{Kind: items.Text, S: "a"}, {Kind: 99, S: "x"}, {Kind: items.Text, S: "b"}}))
}
