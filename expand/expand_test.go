package expand_test

import (
	"math"
	"slices"
	"strconv"
	"strings"
	"testing"

	"stet/api"
	"stet/expand"
	"stet/files"
	"stet/lex"
)

// filesOf is the map of names and texts, in any order.
func filesOf(t testing.TB, pairs ...string) []api.File {
	t.Helper()
	var l []api.File
	for i := 0; i < len(pairs); i += 2 {
		more, e := files.Put(l, api.File{Name: pairs[i], Text: pairs[i+1]})
		if e != api.OK {
			t.Fatalf("file %q: %d", pairs[i], e)
		}
		l = more
	}
	return l
}

// library are the files that stand beside the document m in most tests.
func library(t testing.TB, doc string) []api.File {
	t.Helper()
	return filesOf(t, "a", `A\include{b}`, "b", "B", "d", `\def{x}{0}{X}`, "e", "", "loop", `l\include{loop}`,
		"ping", `i\include{pong}`, "pong", `o\include{ping}`, "u", `\undef{x}`, "open", "{o", "x", `\x`, "m", doc)
}

func expanded(t testing.TB, l []api.File, main string, fuel, most int) expand.Out {
	t.Helper()
	o, e := expand.Expand(l, main, fuel, most)
	if e != api.OK {
		t.Fatalf("%v, fuel %d, most %d: %d", l, fuel, most, e)
	}
	return o
}

// tokens are those of texts with bars between, each text by itself, so that a Word may stand behind a Word.
func tokens(s string) []lex.Token {
	var l []lex.Token
	for _, piece := range strings.Split(s, "|") {
		l = append(l, lex.Lex(piece)...)
	}
	return l
}

// notesOf are those of texts such as "macro def; big x".
func notesOf(t testing.TB, s string) []api.Note {
	t.Helper()
	numbers := map[string]api.Errno{"name": api.ErrName, "big": api.ErrBig, "none": api.ErrNone, "fuel": api.ErrFuel, "macro": api.ErrMacro}
	var l []api.Note
	for _, one := range strings.Split(s, ";") {
		word, of, _ := strings.Cut(strings.TrimPrefix(one, " "), " ")
		if word == "" {
			continue
		}
		e, is := numbers[word]
		if !is {
			t.Fatalf("note %q", one)
		}
		l = append(l, api.Note{Err: e, S: of})
	}
	return l
}

func sameOut(a, b expand.Out) bool {
	return slices.Equal(a.L, b.L) && slices.Equal(a.Reads, b.Reads) && slices.Equal(a.Notes, b.Notes) && a.Used == b.Used
}

// want is a document, and what it should tell: the tokens of out, the notes, what was read behind m, and the fuel.
type want struct {
	doc, out, notes, reads string
	used                   int
}

// check holds the expansion of the document beside the library against what is wanted.
func (w want) check(t *testing.T, fuel, most int) {
	t.Helper()
	w.checkIn(t, library(t, w.doc), fuel, most)
}

// checkIn does so among other files, of which m is the document.
func (w want) checkIn(t *testing.T, l []api.File, fuel, most int) {
	t.Helper()
	o := expanded(t, l, "m", fuel, most)
	is := expand.Out{L: tokens(w.out), Reads: append([]string{"m"}, strings.Fields(w.reads)...), Notes: notesOf(t, w.notes), Used: w.used}
	if !sameOut(o, is) {
		t.Errorf("%q, fuel %d, most %d:\n     %v\nwant %v", w.doc, fuel, most, o, is)
	}
}

func checkAll(t *testing.T, fuel, most int, l []want) {
	t.Helper()
	for _, w := range l {
		w.check(t, fuel, most)
	}
}

// P8.1: what fuel and most may be; R3: beside the error there is nothing.
func TestArguments(t *testing.T) {
	l := library(t, `a\include{none}`)
	fuels := []int{math.MinInt, -1000, -1, 0, 1, 999, 1000, 1001, 20000, 1 << 32, math.MaxInt}
	mosts := []int{math.MinInt, -20000, -1, 0, 1, 1000, 1001, 19999, 20000, 20001, 1 << 32, math.MaxInt}
	for _, fuel := range fuels {
		for _, most := range mosts {
			for _, main := range []string{"m", "none", "M", ""} {
				for _, given := range [][]api.File{l, nil} {
					o, e := expand.Expand(given, main, fuel, most)
					if fuel >= 0 && fuel <= 1000 && most >= 0 && most <= 20000 {
						if e != api.OK || len(o.Reads) == 0 {
							t.Errorf("main %q, fuel %d, most %d: %v, %d", main, fuel, most, o, e)
						}
					} else if e != api.ErrArg || !sameOut(o, expand.Out{}) {
						t.Errorf("main %q, fuel %d, most %d: %v, %d; want ErrArg alone", main, fuel, most, o, e)
					}
				}
			}
		}
	}
}

// P8.1: where main is no file that there is, that is all that is told.
func TestNoMain(t *testing.T) {
	for _, l := range [][]api.File{nil, {}, library(t, "a"), filesOf(t, "a", "")} {
		for _, main := range []string{"", "none", "m.", "mm", "M", " m", "m ", "a b", "\\", "é", "\xff", strings.Repeat("n", 24), strings.Repeat("n", 25), strings.Repeat("m", 5000)} {
			for _, fuel := range []int{0, 1, 1000} {
				o := expanded(t, l, main, fuel, fuel)
				if !sameOut(o, expand.Out{Reads: []string{main}, Notes: []api.Note{{Err: api.ErrNone, S: main}}}) {
					t.Errorf("%v, main %q: %v", l, main, o)
				}
			}
		}
	}
}

// P8.1: any file may be main; it needs no fuel, and is held against no bound.
func TestMain(t *testing.T) {
	for _, name := range []string{"0", "-", ".", "a", "z9", "m.doc", strings.Repeat("n", 24)} {
		for _, text := range []string{"", "a", "a b {c}", "%", "\n\n", "\\"} {
			o := expanded(t, filesOf(t, name, text, "other", "o"), name, 0, 20)
			if !sameOut(o, expand.Out{L: lex.Lex(text), Reads: []string{name}}) {
				t.Errorf("main %q of %q: %v", name, text, o)
			}
		}
	}
	// More tokens than most are to come here, but none of them is put out.
	want{doc: strings.Repeat(`\def{x}{0}{x y z}`, 200)}.check(t, 0, 0)
	want{doc: strings.Repeat(`\undef{x}`, 400)}.check(t, 0, 0)
	want{doc: ""}.check(t, 0, 0)
}

// P8.1: tokens that are no commands that are known are put out as they are.
func TestOtherTokens(t *testing.T) {
	for _, s := range []string{
		"a", " ", "\n\n", "{", "}", "#1", "#9", `\b`, `\z{c}`, "a b\n\nc", "}{", "{{}", "##1", `\\`, `\ `, `\%`, "%x\n", "\\é",
		`\Def{x}{0}{y}`, `\DEF{x}{0}{y}`, `\define{x}{0}{y}`, `\de{x}{0}{y}`, `\defx{x}{0}{y}`, `\undefx{y}`, `\Undef{x}`, `\ifde{x}{y}{z}`, `\ifdefx{x}{y}{z}`, `\Include{a}`, `\input{a}`, `\inc{a}`, `\includes{a}`,
		"def{x}{0}{y}", `\\def{x}{0}{y}`, "include{a}", `\cite{x}\ref{y}`, "\xff\x00", "\t a",
	} {
		want{doc: s, out: s}.check(t, 9, 60)
		want{doc: "{" + s, out: "{" + s}.check(t, 0, 60)
	}
	checkAll(t, 9, 60, []want{
		{doc: `a\undef{x}b`, out: "a|b"},
		{doc: `a \undef{x} b`, out: "a | b"},
		{doc: "a\n\n\\undef{x}\n\nb", out: "a\n\n|\n\nb"},
		{doc: `{\undef{x}}`, out: "{}"},
		{doc: `\z\undef{x}a`, out: `\z|a`},
		{doc: `#\undef{x}1`, out: "#|1"},
	})
}

// The chapter's examples.
func TestExamples(t *testing.T) {
	want{doc: `\def{x}{1}{<#1>}\x{a}`, out: "<|a|>", used: 1}.check(t, 5, 60)
	want{doc: `\def{x}{0}{\x}\x`, notes: "fuel x", used: 5}.check(t, 5, 60)
}

// P8.1: def
func TestDef(t *testing.T) {
	checkAll(t, 9, 60, []want{
		{doc: `\def{x}{0}{a b}`},
		{doc: `\def{x}{0}{a b}\x`, out: "a b", used: 1},
		{doc: `\def{x}{0}{}[\x]`, out: "[|]", used: 1},
		{doc: `\def{x}{0}{a}\x\x\x`, out: "a|a|a", used: 3},
		{doc: `\x\def{x}{0}{a}\x`, out: `\x|a`, used: 1},
		{doc: `\def{x}{1}{<#1>}\x{a}`, out: "<|a|>", used: 1},
		{doc: `\def{x}{0}{{a}}\x`, out: "{a}", used: 1},
		{doc: `\def{x}{0}{a}\def{y}{0}{b}\y\x`, out: "b|a", used: 2},
		{doc: `\def{x}{0}{a}\def{X}{0}{b}\x\X`, out: "a|b", used: 2},
		{doc: `\def{x}{0}{a}\def{xx}{0}{b}\xx\x`, out: "b|a", used: 2},
		// More groups than it takes stay; blanks ahead of one go, and groups within one are a part of it.
		{doc: `\def{x}{0}{a}{b}\x`, out: "{b}a", used: 1},
		{doc: "\\def {x}%r\n{0}\t{a} \\x", out: " |a", used: 1},
		{doc: `\def{x}{0}{a{b}{{c}}}\x`, out: "a{b}{{c}}", used: 1},
		// What is there already is defined anew, with all that it has.
		{doc: `\def{x}{0}{a}\def{x}{0}{b}\x`, out: "b", used: 1},
		{doc: `\def{x}{1}{a#1}\def{x}{0}{b}\x{c}`, out: "b{c}", used: 1},
		{doc: `\def{x}{0}{a}\def{x}{1}{b#1}\x{c}`, out: "b|c", used: 1},
		{doc: `\def{x}{0}{a}\def{x}{0}{}\x`, used: 1},
		// Macros within macros: their Params are those of the outer one.
		{doc: `\def{x}{0}{\def{x}{0}{2}1}\x\x`, out: "1|2", used: 2},
		{doc: `\def{x}{0}{\def{y}{0}{b}}\y\x\y`, out: `\y|b`, used: 2},
		{doc: `\def{x}{1}{\def{y}{1}{<#1>}}\x{a}\y{b}`, out: "<|a|>", used: 2},
		{doc: `\def{x}{1}{\def{#1}{0}{b}}\x{y}\y`, out: "b", used: 2},
		{doc: `\def{x}{1}{\def{y}{#1}{b}}\x{2}\y{}{}{}`, out: "b{}", used: 2},
		{doc: `\def{x}{1}{\def{y}{1}#1}\x{{#1#1}}\y{c}`, out: "c|c", used: 2},
		// A macro that is named as a command is one, but the command is taken.
		{doc: `\def{def}{0}{a}\def{x}{0}{b}\x\ifdef{def}{yes}{no}`, out: "b|yes", used: 1},
		{doc: `\def{undef}{1}{a}\def{x}{0}{b}\undef{x}\x`, out: `\x`},
		{doc: `\def{ifdef}{0}{a}\ifdef{ifdef}{yes}{no}\undef{ifdef}\ifdef{ifdef}{yes}{no}`, out: "yes|no"},
		{doc: `\def{include}{0}{a}\include{b}`, out: "B", reads: "b", used: 1},
		{doc: `\def{include}{0}{a}\include`, notes: "macro include"},
		// Files see what was defined ahead of them, and leave what they define.
		{doc: `\include{d}\x`, out: "X", reads: "d", used: 2},
		{doc: `\def{x}{0}{a}\include{x}`, out: "a", reads: "x", used: 2},
		{doc: `\def{x}{0}{a}\include{d}\x\include{u}\x`, out: `X|\x`, reads: "d u", used: 3},
	})
	checkAll(t, 9, 60, []want{
		// All that is wrong: no group is taken then.
		{doc: `\def`, notes: "macro def"},
		{doc: `\def{}{0}{b}`, out: "{}{0}{b}", notes: "macro def"},
		{doc: `\def{x}{}{b}`, out: "{x}{}{b}", notes: "macro def"},
		{doc: `\def{x y}{0}{b}`, out: "{x y}{0}{b}", notes: "macro def"},
		{doc: `\def{ x}{0}{b}`, out: "{ x}{0}{b}", notes: "macro def"},
		{doc: `\def{x }{0}{b}`, out: "{x }{0}{b}", notes: "macro def"},
		{doc: `\def{{x}}{0}{b}`, out: "{{x}}{0}{b}", notes: "macro def"},
		{doc: `\def{\x}{0}{b}`, out: `{\x}{0}{b}`, notes: "macro def"},
		{doc: `\def{#1}{0}{b}`, out: `{#1}{0}{b}`, notes: "macro def"},
		{doc: `\def{x}{ 0}{b}`, out: "{x}{ 0}{b}", notes: "macro def"},
		{doc: `\def{x}{0 }{b}`, out: "{x}{0 }{b}", notes: "macro def"},
		{doc: `\def{x}{{0}}{b}`, out: "{x}{{0}}{b}", notes: "macro def"},
		{doc: `\def{x}{#1}{b}`, out: "{x}{#1}{b}", notes: "macro def"},
		{doc: `\def{x}{0}{b}\def{x}{a}{c}\x`, out: "{x}{a}{c}b", notes: "macro def", used: 1},
		{doc: `\def{x}{0}{b`, out: "{x}{0}{b", notes: "macro def"},
		{doc: `\def\x{0}{b}`, out: `\x{0}{b}`, notes: "macro def"},
		{doc: `\def{x}{0}\undef{x}`, out: "{x}{0}", notes: "macro def"},
		{doc: "\\def{x}{0}\n\n{b}", out: "{x}{0}\n\n{b}", notes: "macro def"},
		// A wrong name is told behind what is wrong with the groups; the groups are gone.
		{doc: `\def{x-}{0}{b}c`, out: "c", notes: "name x-"},
		{doc: `\def{x-}{a}{b}`, out: "{x-}{a}{b}", notes: "macro def"},
		{doc: `\def{\ }{0}{b}c`, out: "c", notes: "name  "},
		{doc: `\def{\\}{0}{b}c`, out: "c", notes: `name \`},
		{doc: `\def{x}{0}{b}\def{x-}{0}{c}\x`, out: "b", notes: "name x-", used: 1},
		// Two Words in one group are not one Word; only what is put in for Params stands so.
		{doc: `\def{t}{2}{\def{#1#2}{0}{c}}\t{x}{y}`, out: "{x|y}{0}{c}", notes: "macro def", used: 1},
		{doc: `\def{t}{2}{\def{x}{#1#2}{c}}\t{0}{0}`, out: "{x}{0|0}{c}", notes: "macro def", used: 1},
		{doc: `\def{t}{2}{\def{x#1}{0}{c}}\t{}{}\x`, out: "c", used: 2},
	})
}

// P8.1: the name that def is given.
func TestDefNames(t *testing.T) {
	for c := range 256 {
		b := string([]byte{byte(c)})
		if strings.Contains(" \t\n\\{}%#", b) {
			b = "\\" + b
		}
		word := lex.Lex(b)[0].S
		for _, end := range []string{"", "a"} {
			o := expanded(t, library(t, `\def{`+b+end+`}{0}{b}`), "m", 9, 60)
			good := word >= "a" && word <= "z" || word >= "A" && word <= "Z"
			is := expand.Out{Reads: []string{"m"}}
			if !good {
				is.Notes = []api.Note{{Err: api.ErrName, S: word + end}}
			}
			if !sameOut(o, is) {
				t.Errorf("def of %q: %v; want %v", word+end, o, is)
			}
		}
	}
	for n := 1; n <= 40; n++ {
		name := strings.Repeat("n", n)
		w := want{doc: `\def{` + name + `}{0}{b}\` + name, out: "b", used: 1}
		if n > 20 {
			w.out, w.used, w.notes = `\`+name, 0, "name "+name
		}
		w.check(t, 9, 60)
	}
}

// P8.1: how many Params def is given: one Word that is one digit.
func TestDefParams(t *testing.T) {
	for n := range 10 {
		digit := strconv.Itoa(n)
		groups := strings.Repeat("{g}", n)
		checkAll(t, 9, 60, []want{
			{doc: `\def{x}{` + digit + `}{b}\x` + groups + "{c}", out: "b{c}", used: 1},
			{doc: `\def{x}{\` + digit + `}{b}\x` + groups + "{c}", out: "b{c}", used: 1},
		})
		if n > 0 {
			want{doc: `\def{x}{` + digit + `}{b}\x` + groups[3:] + ".c", out: groups[3:] + ".c", notes: "macro x"}.check(t, 9, 60)
		}
	}
	for c := range 256 {
		b := string([]byte{byte(c)})
		if b >= "0" && b <= "9" || strings.Contains("\\{}%", b) {
			continue
		}
		for _, s := range []string{b, "0" + b, b + "1", "\\" + b, "\\" + b + "2", "a\\" + b} {
			wantNoDef(t, `{x}{`+s+`}{b}`)
		}
	}
	for _, s := range []string{"", "10", "00", "01", "-1", "+1", "1.", "1e", "²", "１", "٣", "11111111111111111111", "0x1", "one", "{}", "{1}", "1{}", "1%", "%\n1", "\\\\", "\\{", "\\}", "\\%", "1\n\n"} {
		wantNoDef(t, `{x}{`+s+`}{b}`)
	}
}

// wantNoDef holds that def takes none of these groups.
func wantNoDef(t *testing.T, groups string) {
	t.Helper()
	o := expanded(t, library(t, `\def`+groups), "m", 9, 60)
	if !sameOut(o, expand.Out{L: lex.Lex(groups), Reads: []string{"m"}, Notes: []api.Note{{Err: api.ErrMacro, S: "def"}}}) {
		t.Errorf("def of %q: %v", groups, o)
	}
}

// nth is the name of a macro.
func nth(i int) string {
	return "n" + string(rune('a'+i/26)) + string(rune('a'+i%26))
}

// defs are definitions of the macros from the first up to the last, without that one, each of which stands for its number.
func defs(first, last int) string {
	s := ""
	for i := first; i < last; i++ {
		s += `\def{` + nth(i) + "}{0}{" + strconv.Itoa(i) + "}"
	}
	return s
}

// P8.1: there are 40 macros at once; the next one is too many, till one of them is gone.
func TestManyMacros(t *testing.T) {
	for i := range 40 {
		name := nth(i)
		is := strconv.Itoa(i)
		checkAll(t, 99, 99, []want{
			{doc: defs(0, 40) + `\` + name, out: is, used: 1},
			{doc: defs(0, 40) + `\def{` + name + `}{1}{new#1}\` + name + `{x}`, out: "new|x", used: 1},
			{doc: defs(0, 41) + `\` + name + `\` + nth(40), out: is + `|\` + nth(40), notes: "big " + nth(40), used: 1},
			{doc: defs(0, 40) + `\def{x}{0}{a}\undef{` + name + `}\def{x}{0}{b}\x\` + name, out: `b|\` + name, notes: "big x", used: 1},
			{doc: defs(0, 40) + `\undef{x}\def{x}{0}{a}\` + name, out: is, notes: "big x", used: 1},
		})
	}
	checkAll(t, 99, 99, []want{
		{doc: defs(0, 39) + `\def{x}{0}{b}\x`, out: "b", used: 1},
		{doc: defs(0, 40) + `\ifdef{x}{yes}{no}\def{x}{0}{b}\ifdef{x}{yes}{no}`, out: "no|no", notes: "big x"},
		{doc: defs(0, 40) + `\def{x-}{0}{b}`, notes: "name x-"},
		{doc: defs(0, 40) + `\def{x}{a}{b}`, out: "{x}{a}{b}", notes: "macro def"},
		{doc: defs(0, 45), notes: "big nbo; big nbp; big nbq; big nbr; big nbs"},
		{doc: defs(0, 38) + `\def{def}{0}{}\def{include}{0}{}\def{x}{0}{}`, notes: "big x"},
		{doc: defs(1, 39) + `\def{` + strings.Repeat("z", 20) + `}{9}{}\def{A}{0}{a}\A\def{b}{0}{}`, out: "a", notes: "big b", used: 1},
	})
}

// P8.1: undef
func TestUndef(t *testing.T) {
	checkAll(t, 9, 60, []want{
		{doc: `\undef{x}`},
		{doc: `\undef{x}a`, out: "a"},
		{doc: `\def{x}{0}{a}\undef{x}\x`, out: `\x`},
		{doc: `\def{x}{0}{a}\undef{y}\x`, out: "a", used: 1},
		{doc: `\def{x}{0}{a}\def{y}{0}{b}\undef{x}\x\y`, out: `\x|b`, used: 1},
		{doc: `\def{x}{0}{a}\def{y}{0}{b}\undef{y}\x\y`, out: `a|\y`, used: 1},
		{doc: `\undef{x}{y}`, out: "{y}"},
		{doc: `\undef {x} y`, out: " y"},
		{doc: `\def{x}{0}{a}\undef%r
{x}\x`, out: `\x`},
		{doc: `\def{x}{0}{a}\undef{x}\undef{x}\x`, out: `\x`},
		{doc: `\def{x}{0}{a}\undef{x}\def{x}{1}{b#1}\x{c}`, out: "b|c", used: 1},
		{doc: `\def{x}{0}{a}\undef{X}\x`, out: "a", used: 1},
		{doc: `\def{x}{0}{\undef{x}a}\x\x`, out: `a|\x`, used: 1},
		// A Word that is no macro's name is the name of none.
		{doc: `\undef{x-}`},
		{doc: `\undef{1}a`, out: "a"},
		{doc: `\undef{\ }`},
		{doc: `\undef{` + strings.Repeat("n", 21) + `}`},
		// It undoes no command.
		{doc: `\undef{def}\def{x}{0}{a}\x`, out: "a", used: 1},
		{doc: `\undef{include}\include{b}`, out: "B", reads: "b", used: 1},
		{doc: `\undef{undef}\def{x}{0}{a}\undef{x}\x`, out: `\x`},
		{doc: `\undef{ifdef}\ifdef{x}{a}{b}`, out: "b"},
		{doc: `\undef`, notes: "macro undef"},
		{doc: `\undef{}`, out: "{}", notes: "macro undef"},
		{doc: `\undef{x y}`, out: "{x y}", notes: "macro undef"},
		{doc: `\undef{ x}`, out: "{ x}", notes: "macro undef"},
		{doc: `\undef{x }`, out: "{x }", notes: "macro undef"},
		{doc: `\undef{{x}}`, out: "{{x}}", notes: "macro undef"},
		{doc: `\undef x`, out: " x", notes: "macro undef"},
		{doc: `\undef{x`, out: "{x", notes: "macro undef"},
		{doc: `\undef}x{`, out: "}x{", notes: "macro undef"},
		{doc: `\undef\x`, out: `\x`, notes: "macro undef"},
		{doc: "\\undef\n\n{x}", out: "\n\n{x}", notes: "macro undef"},
		{doc: `\undef #1`, out: " #1", notes: "macro undef"},
		{doc: `\def{x}{0}{a}\undef{\x}`, out: `{a}`, notes: "macro undef", used: 1},
		{doc: `\def{x}{0}{a}\undef{x x}\x`, out: "{x x}a", notes: "macro undef", used: 1},
		{doc: `\def{t}{2}{\undef{#1#2}}\t{x}{y}`, out: "{x|y}", notes: "macro undef", used: 1},
		{doc: `\def{x}{0}{a}\def{t}{2}{\undef{#1#2}}\t{x}{}\x`, out: `\x`, used: 1},
	})
}

// P8.1: ifdef
func TestIfdef(t *testing.T) {
	checkAll(t, 9, 60, []want{
		{doc: `\ifdef{x}{a}{b}`, out: "b"},
		{doc: `\def{x}{0}{c}\ifdef{x}{a}{b}`, out: "a"},
		{doc: `\def{x}{9}{c}\ifdef{x}{a}{b}`, out: "a"},
		{doc: `\def{x}{0}{c}\ifdef{y}{a}{b}`, out: "b"},
		{doc: `\def{x}{0}{c}\ifdef{X}{a}{b}`, out: "b"},
		{doc: `\def{x}{0}{c}\undef{x}\ifdef{x}{a}{b}`, out: "b"},
		{doc: `[\ifdef{x}{a}{}]`, out: "[|]"},
		{doc: `\def{x}{0}{}[\ifdef{x}{}{b}]`, out: "[|]"},
		{doc: `[\ifdef{x}{}{b}]`, out: "[|b|]"},
		{doc: `\ifdef{x}{}{}`},
		{doc: `\def{x}{0}{}\ifdef{x}{}{}`},
		{doc: `\ifdef {x} {a}%r
{b} c`, out: "b| |c"},
		{doc: `\ifdef{x}{a}{b}{c}`, out: "b{c}"},
		{doc: `\ifdef{x}{a}{b }c`, out: "b |c"},
		{doc: `\ifdef{x}{a}{ b}`, out: " b"},
		{doc: `\ifdef{x}{{a}}{{b}}`, out: "{b}"},
		// What is chosen is to come, and what is not is gone.
		{doc: `\ifdef{x}{\def{y}{0}{1}}{\def{y}{0}{2}}\y`, out: "2", used: 1},
		{doc: `\def{x}{0}{}\ifdef{x}{\def{y}{0}{1}}{\def{y}{0}{2}}\y`, out: "1", used: 1},
		{doc: `\ifdef{x}{\include{a}}{\include{b}}`, out: "B", reads: "b", used: 1},
		{doc: `\ifdef{x}{\ifdef}{\ifdef}`, notes: "macro ifdef"},
		{doc: `\ifdef{x}{\def{x}{0}{1}}{\def{x}{0}{2}}\ifdef{x}{\x}{no}`, out: "2", used: 1},
		{doc: `\ifdef{x}{a}{\ifdef{y}{b}{\ifdef{z}{c}{d}}}`, out: "d"},
		{doc: `\def{y}{0}{}\ifdef{x}{a}{\ifdef{y}{b}{c}e}f`, out: "b|e|f"},
		{doc: `\ifdef{x}{}{\undef}{x}`, out: ""},
		{doc: `\ifdef{x}{}{\x}\def{x}{0}{a}`, out: `\x`},
		{doc: `\def{x}{1}{<#1>}\ifdef{x}{\x}{}{a}`, out: "<|a|>", used: 1},
		// Within a macro's body.
		{doc: `\def{t}{1}{\ifdef{#1}{yes}{no}}\t{x}\def{x}{0}{}\t{x}\t{t}`, out: "no|yes|yes", used: 3},
		{doc: `\def{t}{0}{\ifdef{x}{}{1\def{x}{0}{}\t}}\t`, out: "1", used: 2},
		{doc: `\def{t}{2}{\ifdef{x}{#1}{#2}}\t{a}{b c}\def{x}{0}{}\t{a}{b}`, out: "b c|a", used: 2},
		// A Word that is no macro's name is the name of none; nor are the commands macros.
		{doc: `\ifdef{x-}{a}{b}`, out: "b"},
		{doc: `\ifdef{1}{a}{b}`, out: "b"},
		{doc: `\ifdef{def}{a}{b}`, out: "b"},
		{doc: `\ifdef{ifdef}{a}{b}\ifdef{include}{a}{b}\ifdef{undef}{a}{b}`, out: "b|b|b"},
		{doc: `\ifdef`, notes: "macro ifdef"},
		{doc: `\ifdef{}{a}{b}`, out: "{}{a}{b}", notes: "macro ifdef"},
		{doc: `\ifdef{x y}{a}{b}`, out: "{x y}{a}{b}", notes: "macro ifdef"},
		{doc: `\ifdef{ x}{a}{b}`, out: "{ x}{a}{b}", notes: "macro ifdef"},
		{doc: `\ifdef{x }{a}{b}`, out: "{x }{a}{b}", notes: "macro ifdef"},
		{doc: `\ifdef{{x}}{a}{b}`, out: "{{x}}{a}{b}", notes: "macro ifdef"},
		{doc: `\ifdef{x}{a}`, out: "{x}{a}", notes: "macro ifdef"},
		{doc: `\ifdef{x}{a}{b`, out: "{x}{a}{b", notes: "macro ifdef"},
		{doc: "\\ifdef{x}\n\n{a}{b}", out: "{x}\n\n{a}{b}", notes: "macro ifdef"},
		{doc: `\ifdef\x{a}{b}`, out: `\x{a}{b}`, notes: "macro ifdef"},
		{doc: `\def{t}{2}{\ifdef{#1#2}{a}{b}}\t{t}{t}`, out: `{t|t}{a}{b}`, notes: "macro ifdef", used: 1},
	})
	// It takes no fuel, and is held against no bound.
	want{doc: strings.Repeat(`\ifdef{x}{}{}`, 300)}.check(t, 0, 0)
	want{doc: strings.Repeat(`\ifdef{x}{}{a}`, 250), out: strings.Repeat("a|", 250)}.check(t, 0, 250)
}

// P8.1: include
func TestInclude(t *testing.T) {
	long := strings.Repeat("n", 24)
	checkAll(t, 9, 60, []want{
		{doc: `\include{b}`, out: "B", reads: "b", used: 1},
		{doc: `\include{a}\include{b}`, out: "A|B|B", reads: "a b", used: 3},
		{doc: `1\include{b}2`, out: "1|B|2", reads: "b", used: 1},
		{doc: `1 \include{b} 2`, out: "1 |B| 2", reads: "b", used: 1},
		{doc: `\include{b}\include{b}\include{b}`, out: "B|B|B", reads: "b", used: 3},
		{doc: `[\include{e}]`, out: "[|]", reads: "e", used: 1},
		{doc: `\include{e}`, reads: "e", used: 1},
		{doc: `\include{b}{a}`, out: "B{a}", reads: "b", used: 1},
		{doc: `\include {b} a`, out: "B| a", reads: "b", used: 1},
		{doc: `\include{{b}}{b}`, out: "{{b}}{b}", notes: "macro include"},
		// Files that come back to themselves, alone and by another one.
		{doc: `\include{loop}`, out: "l|l|l|l|l|l|l|l|l", reads: "loop", notes: "fuel loop", used: 9},
		{doc: `\include{ping}`, out: "i|o|i|o|i|o|i|o|i", reads: "ping pong", notes: "fuel pong", used: 9},
		{doc: `a\include{m}`, out: "a|a|a|a|a|a|a|a|a|a", notes: "fuel m", used: 9},
		{doc: `\include{loop}b`, out: "l|l|l|l|l|l|l|l|l|b", reads: "loop", notes: "fuel loop", used: 9},
		{doc: `\ifdef{x}{}{\def{x}{0}{}a\include{m}}b`, out: "a|b|b", used: 1},
		// What a file begins may end behind it.
		{doc: `\include{open}}`, out: "{o}", reads: "open", used: 1},
		{doc: `\def{x}{1}{<#1>}\include{x}{a}`, out: "<|a|>", reads: "x", used: 2},
		{doc: `\def{x}{1}{<#1>}\x\include{open}}`, out: "{o}", reads: "open", notes: "macro x", used: 1},
		{doc: `\def\include{open}}{0}{a}`, out: "{o}{0}{a}", reads: "open", notes: "macro def", used: 1},
		// A file that is not there is asked for all the same, and takes fuel.
		{doc: `\include{none}y`, out: "y", reads: "none", notes: "none none", used: 1},
		{doc: `\include{none}\include{none}`, reads: "none", notes: "none none; none none", used: 2},
		{doc: `\include{` + long + `}`, reads: long, notes: "none " + long, used: 1},
		// What is no file's name is not asked for, and takes none.
		{doc: `\include{A}y`, out: "y", notes: "name A"},
		{doc: `\include{b_}`, notes: "name b_"},
		{doc: `\include{\ b}`, notes: "name  b"},
		{doc: `\include{b/b}`, notes: "name b/b"},
		{doc: `\include{é}`, notes: "name é"},
		{doc: `\include{` + long + `n}`, notes: "name " + long + "n"},
		{doc: `\include{\{}\include{\\}`, notes: `name {; name \`},
		{doc: `\include{B}\include{b}`, out: "B", notes: "name B", reads: "b", used: 1},
		{doc: `\include`, notes: "macro include"},
		{doc: `\include{}`, out: "{}", notes: "macro include"},
		{doc: `\include{a b}`, out: "{a b}", notes: "macro include"},
		{doc: `\include{ b}`, out: "{ b}", notes: "macro include"},
		{doc: `\include{b }`, out: "{b }", notes: "macro include"},
		{doc: `\include{{b}}`, out: "{{b}}", notes: "macro include"},
		{doc: `\include b`, out: " |b", notes: "macro include"},
		{doc: `\include{b`, out: "{b", notes: "macro include"},
		{doc: `\include{\b}`, out: `{\b}`, notes: "macro include"},
		{doc: "\\include\n\n{b}", out: "\n\n{b}", notes: "macro include"},
		{doc: `\def{t}{2}{\include{#1#2}}\t{b}{b}\t{b}{}`, out: "{b|b}B", notes: "macro include", reads: "b", used: 3},
		{doc: `\def{t}{1}{\include{#1}}\t{b}\t{a}`, out: "B|A|B", reads: "b a", used: 5},
		// A file's own end ends its last token, too.
		{doc: `\include{b}b\include{x}y`, out: `B|b|\x|y`, reads: "b x", used: 2},
	})
}

// includes are includes of the files f0, f1 and so on, from the first up to the last, without that one.
func includes(first, last int) string {
	s := ""
	for i := first; i < last; i++ {
		s += `\include{f` + strconv.Itoa(i) + "}"
	}
	return s
}

// reads are their names.
func reads(first, last int) string {
	s := ""
	for i := first; i < last; i++ {
		s += "f" + strconv.Itoa(i) + " "
	}
	return s
}

// notes are one of this kind of each of them.
func notes(kind string, first, last int) string {
	s := ""
	for i := first; i < last; i++ {
		s += kind + " f" + strconv.Itoa(i) + ";"
	}
	return s
}

// P8.1: 32 files are asked for, with main; those may be asked for again then, others not.
func TestManyFiles(t *testing.T) {
	none := notes("none", 0, 31)
	all := reads(0, 31)
	checkAll(t, 1000, 999, []want{
		{doc: includes(0, 30) + `\include{b}b`, out: "B|b", reads: reads(0, 30) + "b", notes: notes("none", 0, 30), used: 31},
		{doc: includes(0, 31), reads: all, notes: none, used: 31},
		{doc: includes(0, 31) + `\include{b}b`, out: "b", reads: all, notes: none + "big b", used: 31},
		{doc: includes(0, 33), reads: all, notes: none + "big f31; big f32", used: 31},
		{doc: includes(0, 32) + `\include{f30}\include{f0}`, reads: all, notes: none + "big f31; none f30; none f0", used: 33},
		{doc: includes(0, 32) + `\include{B}`, reads: all, notes: none + "big f31; name B", used: 31},
		{doc: includes(0, 32) + `\include{}`, out: "{}", reads: all, notes: none + "big f31; macro include", used: 31},
		{doc: `\include{b}` + includes(0, 31) + `\include{b}`, out: "B|B", reads: "b " + reads(0, 30), notes: notes("none", 0, 30) + "big f30", used: 32},
		{doc: includes(0, 10) + includes(0, 31) + includes(25, 35), reads: all, notes: notes("none", 0, 10) + none + notes("none", 25, 31) + notes("big", 31, 35), used: 47},
		{doc: `\ifdef{x}{}{\def{x}{0}{}` + includes(0, 32) + `\include{m}}c`, out: "c|c", reads: all, notes: none + "big f31", used: 32},
	})
	// Of 32 files all are asked for, and all are there.
	l := filesOf(t, "m", includes(0, 31)+includes(0, 31))
	for i := range 31 {
		l, _ = files.Put(l, api.File{Name: "f" + strconv.Itoa(i), Text: strconv.Itoa(i)})
	}
	o := expanded(t, l, "m", 62, 999)
	if len(l) != 32 || len(o.L) != 62 || o.L[30].S != "30" || o.L[31].S != "0" || len(o.Reads) != 32 || len(o.Notes) != 0 || o.Used != 62 {
		t.Errorf("32 files: %v", o)
	}
}

// P8.1: macros
func TestMacro(t *testing.T) {
	checkAll(t, 9, 60, []want{
		{doc: `\def{x}{2}{#2#1}\x{a}{b}\x{c}`, out: "b|a{c}", notes: "macro x", used: 1},
		{doc: `\def{x}{1}{#1}\x{a b}c`, out: "a b|c", used: 1},
		{doc: `\def{x}{1}{#1}[\x{}]`, out: "[|]", used: 1},
		{doc: `\def{x}{1}{#1#1#1}\x{a }`, out: "a |a |a |", used: 1},
		{doc: `\def{x}{1}{#2#1#9}\x{a}`, out: "a", used: 1},
		{doc: `\def{x}{0}{#1a}\x{b}`, out: "a{b}", used: 1},
		{doc: `\def{x}{1}{{#1}}\x{{a}}`, out: "{{a}}", used: 1},
		{doc: `\def{x}{9}{#9#8#7#6#5#4#3#2#1}\x{1}{2}{3}{4}{5}{6}{7}{8}{9}`, out: "9|8|7|6|5|4|3|2|1", used: 1},
		// With no Params nothing behind it is taken, no blank either.
		{doc: `\def{x}{0}{a}\x b`, out: "a| b", used: 1},
		{doc: `\def{x}{0}{a}\x {b}`, out: "a| {b}", used: 1},
		{doc: `\def{x}{0}{a}\x}`, out: "a}", used: 1},
		{doc: `\def{x}{0}{a}\x`, out: "a", used: 1},
		{doc: `\def{x}{1}{a}\x {b} c`, out: "a| c", used: 1},
		{doc: "\\def{x}{1}{a}\\x%r\n{b}", out: "a", used: 1},
		{doc: "\\def{x}{1}{a}\\x\n\n{b}", out: "\n\n{b}", notes: "macro x"},
		{doc: `\def{x}{2}{a}\x {b} {c}`, out: "a", used: 1},
		{doc: `\def{x}{1}{a}\x`, notes: "macro x"},
		{doc: `\def{x}{1}{a}\x b`, out: " b", notes: "macro x"},
		{doc: `\def{x}{1}{a}\x{b`, out: "{b", notes: "macro x"},
		{doc: `\def{x}{1}{a}\x{b{c}`, out: "{b{c}", notes: "macro x"},
		{doc: `\def{x}{1}{a}\x}{b}`, out: "}{b}", notes: "macro x"},
		{doc: `\def{x}{2}{a}\x{b}c{d}`, out: "{b}c{d}", notes: "macro x"},
		{doc: `\def{x}{1}{a}\x\x{b}`, out: "a", notes: "macro x", used: 1},
		// What stands for a macro is to come, and so are its groups, where they were put; not ahead of that.
		{doc: `\def{x}{1}{#1#1}\x{\x{a}}`, out: "a|a|a|a", used: 3},
		{doc: `\def{x}{1}{\undef{x}#1}\x{\x{a}}`, out: `\x{a}`, used: 1},
		{doc: `\def{x}{1}{}\x{\include{b}}`, used: 1},
		{doc: `\def{x}{1}{#1#1}\x{\include{b}}`, out: "B|B", reads: "b", used: 3},
		{doc: `\def{x}{0}{\y}\def{y}{1}{<#1>}\x{a}`, out: "<|a|>", used: 2},
		{doc: `\def{x}{1}{\y}\def{y}{1}{<#1>}\x{a}{b}`, out: "<|b|>", used: 2},
		{doc: `\def{x}{0}{a}\def{y}{0}{\x b}\y\def{x}{0}{c}\y`, out: "a| b|c| b", used: 4},
		{doc: `\def{x}{1}{#1}\x{#1}`, out: "#1", used: 1},
		{doc: `\def{x}{1}{\y{#1}}\def{y}{1}{[#1#2]}\x{#2}`, out: "[|#2|]", used: 2},
		{doc: `\def{x}{0}{\def}\x{y}{0}{a}\y`, out: "a", used: 2},
		{doc: `\def{x}{0}{\incl}\x{b}`, out: `\incl{b}`, used: 1},
		{doc: `\def{x}{0}{\include}\x{b}`, out: "B", reads: "b", used: 2},
		{doc: `\def{x}{1}{\def{y}{0}{#1}#1}\x{a}\y`, out: "a|a", used: 2},
		{doc: `\def{x}{0}{{}\x}`},
		{doc: `\def{x}{0}{a}{\x}`, out: "{a}", used: 1},
		{doc: `\def{x}{0}{a}\x\x \x`, out: "a|a| |a", used: 3},
		// Macros that come back to themselves.
		{doc: `\def{x}{0}{\x}\x`, notes: "fuel x", used: 9},
		{doc: `\def{x}{0}{a\x}\x b`, out: "a|a|a|a|a|a|a|a|a| b", notes: "fuel x", used: 9},
		{doc: `\def{x}{0}{\y}\def{y}{0}{\x}\x`, notes: "fuel y", used: 9},
		{doc: `\def{x}{0}{1\y}\def{y}{0}{2\x}\y`, out: "2|1|2|1|2|1|2|1|2", notes: "fuel x", used: 9},
		{doc: `\def{x}{1}{\x{#1}}\x{a}b`, out: "b", notes: "fuel x", used: 9},
		{doc: `\def{x}{0}{\x\x}\x`, notes: "fuel x; fuel x; fuel x; fuel x; fuel x; fuel x; fuel x; fuel x; fuel x; fuel x", used: 9},
		{doc: `\def{x}{0}{\include{x}}\x`, reads: "x", notes: "fuel x", used: 9},
	})
}

// P8.1: fuel that is not there, and the last of it.
func TestFuel(t *testing.T) {
	checkAll(t, 0, 60, []want{
		{doc: `\include{b}c`, out: "c", notes: "fuel b"},
		{doc: `\include{none}`, notes: "fuel none"},
		{doc: `\include{e}`, notes: "fuel e"},
		{doc: `\include{m}`, notes: "fuel m"},
		{doc: `\include{B}`, notes: "name B"},
		{doc: `\include{}`, out: "{}", notes: "macro include"},
		{doc: `\def{x}{0}{a}\x b`, out: " b", notes: "fuel x"},
		{doc: `\def{x}{1}{a}\x{b}c`, out: "c", notes: "fuel x"},
		{doc: `\def{x}{1}{a}\x {b} c`, out: " c", notes: "fuel x"},
		{doc: `\def{x}{1}{a}\x b`, out: " b", notes: "macro x"},
		{doc: `\def{x}{2}{a}\x{b}c`, out: "{b}c", notes: "macro x"},
		{doc: `\def{x}{0}{a}\ifdef{x}{b}{c}\undef{x}\ifdef{x}{b}{c}\x`, out: `b|c|\x`},
	})
	checkAll(t, 1, 60, []want{
		{doc: `\include{b}c\include{b}`, out: "B|c", reads: "b", notes: "fuel b", used: 1},
		{doc: `\include{a}`, out: "A", reads: "a", notes: "fuel b", used: 1},
		{doc: `\include{none}\include{b}`, reads: "none", notes: "none none; fuel b", used: 1},
		{doc: `\include{B}\include{b}`, out: "B", reads: "b", notes: "name B", used: 1},
		{doc: `\include{}\include{b}`, out: "{}B", reads: "b", notes: "macro include", used: 1},
		{doc: `\def{x}{0}{a}\x\x`, out: "a", notes: "fuel x", used: 1},
		{doc: `\def{x}{0}{a}\x\include{b}`, out: "a", notes: "fuel b", used: 1},
		{doc: `\def{x}{0}{a}\include{b}\x`, out: "B", reads: "b", notes: "fuel x", used: 1},
		{doc: `\def{x}{1}{a}\x\x{b}`, out: "a", notes: "macro x", used: 1},
		{doc: `\undef{y}\def{x}{0}{}\ifdef{x}{}{}\x\x`, notes: "fuel x", used: 1},
	})
	loop := `\def{x}{0}{a\x}\x`
	for _, fuel := range []int{0, 1, 2, 3, 10, 31, 32, 33, 255, 256, 999, 1000} {
		want{doc: loop, out: strings.Repeat("a|", fuel), notes: "fuel x", used: fuel}.check(t, fuel, 20000)
		want{doc: `l\include{m}`, out: strings.Repeat("l|", fuel+1), notes: "fuel m", used: fuel}.check(t, fuel, 20000)
		want{doc: `\def{x}{0}{}` + strings.Repeat(`\x`, fuel), used: fuel}.check(t, fuel, 20000)
		want{doc: `\def{x}{0}{}` + strings.Repeat(`\x`, fuel+1), notes: "fuel x", used: fuel}.check(t, fuel, 20000)
	}
}

// P8.1: as many tokens are put out as most; the next one ends it.
func TestPutOut(t *testing.T) {
	for _, most := range []int{0, 1, 2, 3, 59, 60, 61} {
		for n := range 65 {
			for _, one := range []string{`{`, `}`, `#1`, `\b`} {
				s := strings.Repeat(one, n)
				w := want{doc: s, out: s}
				if n > most {
					w.out, w.notes = strings.Repeat(one, most), "big "
				}
				w.check(t, 9, most)
			}
		}
	}
	checkAll(t, 9, 2, []want{
		// Behind the end nothing is done any more.
		{doc: `a b c\include{none}\def\undef`, out: "a ", notes: "big "},
		{doc: `a bc`, out: "a ", notes: "big "},
		{doc: `a {b}{c}`, out: "a ", notes: "big "},
		// A command is done, however many tokens were put out.
		{doc: `a \def{x-}{0}{}\undef\include{none}`, out: "a ", reads: "none", notes: "name x-; macro undef; none none", used: 1},
		{doc: `a \include{e}\def`, out: "a ", reads: "e", notes: "macro def", used: 1},
		{doc: `a \def{x}{0}{}\x\x`, out: "a ", used: 2},
		{doc: `a \def{x}{0}{y}\x\x`, out: "a ", notes: "big ", used: 1},
		{doc: `a \ifdef{x}{b}{}`, out: "a "},
		{doc: `a \ifdef{x}{}{b}`, out: "a ", notes: "big "},
		{doc: `a \include{b}\include{none}`, out: "a ", reads: "b none", notes: "big b; none none", used: 2},
		{doc: `a \include{b}\undef\undef`, out: "a ", reads: "b", notes: "big b; macro undef; macro undef", used: 1},
		{doc: `a \include{b}`, out: "a ", reads: "b", notes: "big ", used: 1},
	})
	for _, n := range []int{3998, 3999, 4000} {
		s := strings.Repeat("{", 4000)
		w := want{doc: s, out: s[:n]}
		if n < 4000 {
			w.notes = "big "
		}
		w.check(t, 9, n)
	}
}

// P8.1: an include and a macro let tokens come, if no more than most are to come then; where they do not, the fuel is gone all the same.
func TestToCome(t *testing.T) {
	for _, by := range []struct {
		doc, name, reads string
		times            int
	}{
		{`\include{file}`, "file", "file", 1}, {`\include {file}`, "file", "file", 1}, {`\include{e}`, "e", "e", 0},
		{`\def{x}{0}{TEXT}\x`, "x", "", 1}, {`\def{x}{0}{TEXT#1TEXT}\x`, "x", "", 2}, {`\def{x}{0}{}\x`, "x", "", 0},
		{`\def{x}{1}{#1}\x{TEXT}`, "x", "", 1}, {`\def{x}{1}{#1#1#1}\x{TEXT}`, "x", "", 3}, {`\def{x}{1}{}\x{TEXT}`, "x", "", 0}, {`\def{x}{1}{#2}\x{TEXT}`, "x", "", 0}, {`\def{x}{1}{#1TEXT}\x{TEXT}`, "x", "", 2},
		{`\def{x}{2}{#2#1}\x {}{TEXT}`, "x", "", 1}, {`\def{x}{3}{#4#2#9}\x{a b}{TEXT} {c}`, "x", "", 1}, {`\def{x}{9}{#9#1#9}\x{}{a}{b}{c}{d}{e}{f}{g} {TEXT}`, "x", "", 2},
	} {
		for k := range 6 {
			for r := range 9 {
				for most := range 12 {
					text, rest := strings.Repeat(`\o`, k), strings.Repeat("}", r)
					w := want{doc: strings.ReplaceAll(by.doc, "TEXT", text) + rest, reads: by.reads, used: 1}
					switch {
					case k*by.times+r <= most:
						w.out = strings.Repeat(text, by.times) + rest
					case r <= most:
						w.out, w.notes = rest, "big "+by.name
					default:
						w.out, w.notes = rest[:most], "big "+by.name+"; big "
					}
					w.checkIn(t, filesOf(t, "m", w.doc, "file", text, "e", ""), 9, most)
				}
			}
		}
	}
}

// P8.1: neither what was put out counts there, nor what was taken away; and where some tokens do not come, the others do.
func TestToComeAlone(t *testing.T) {
	checkAll(t, 9, 4, []want{
		{doc: `{{\def{x}{0}{a}\x\x}`, out: "{{a|a", notes: "big ", used: 2},
		{doc: `{{{{\def{x}{0}{\undef{y}}\x`, out: "{{{{", used: 1},
		{doc: `{{{{\include{e}`, out: "{{{{", reads: "e", used: 1},
		{doc: `\def{x}{1}{a}\x{b c d e f}`, out: "a", used: 1},
		{doc: `\def{x}{0}{\o\o\o\o\o}\x\def{x}{0}{a}\x`, out: "a", notes: "big x", used: 2},
		{doc: `\include{d}\x`, out: `\x`, reads: "d", notes: "big d", used: 1},
		{doc: `\ifdef{x}{}{\undef{y}\undef{y}}`},
	})
}

// P8.1, R2: of several things that are wrong with a command the first one is told.
func TestFirstError(t *testing.T) {
	all, none := reads(0, 31), notes("none", 0, 31)
	checkAll(t, 31, 4, []want{
		{doc: includes(0, 31) + `\include{}`, out: "{}", reads: all, notes: none + "macro include", used: 31},
		{doc: includes(0, 31) + `\include{F}`, reads: all, notes: none + "name F", used: 31},
		{doc: includes(0, 31) + `\include{b}`, reads: all, notes: none + "big b", used: 31},
		{doc: includes(0, 31) + `\include{f31}`, reads: all, notes: none + "big f31", used: 31},
		{doc: includes(0, 31) + `\include{f30}`, reads: all, notes: none + "fuel f30", used: 31},
		{doc: includes(0, 31) + `\include{m}`, reads: all, notes: none + "fuel m", used: 31},
	})
	checkAll(t, 0, 4, []want{
		{doc: `\include{b}{{{{{`, out: "{{{{", notes: "fuel b; big "},
		{doc: `\include{none}{{{{{`, out: "{{{{", notes: "fuel none; big "},
		{doc: `\def{x}{0}{\o\o\o\o\o}\x`, notes: "fuel x"},
		{doc: `\def{x}{1}{\o\o\o\o\o}\x`, notes: "macro x"},
	})
	checkAll(t, 9, 4, []want{
		{doc: `\include{none}{{{{{`, out: "{{{{", reads: "none", notes: "none none; big ", used: 1},
		{doc: `\include{b}{{{{{`, out: "{{{{", reads: "b", notes: "big b; big ", used: 1},
		{doc: `\include{B}{{{{{`, out: "{{{{", notes: "name B; big "},
		{doc: `\def{x}{1}{\o\o\o\o\o}\x`, notes: "macro x"},
		{doc: `\def{x}{1}{}\x{{{{{`, out: "{{{{", notes: "macro x; big "},
	})
}

// P8.1: notes stand in the order in which they came, files in that in which they were asked for first.
func TestOrder(t *testing.T) {
	checkAll(t, 4, 60, []want{
		{
			doc: `\undef\include{b}\def{x-}{0}{}\include{none}\include{a}\ifdef\include{N}\x\def{y}{1}{}\y\include{b}\include{d}`,
			out: `B|A|B|\x`, reads: "b none a", used: 4,
			notes: "macro undef; name x-; none none; macro ifdef; name N; macro y; fuel b; fuel d",
		},
		{doc: `\include{none}\include{b}\include{none}\include{a}`, out: "B|A", reads: "none b a", notes: "none none; none none; fuel b", used: 4},
		{doc: `\include{a}\include{m}`, out: "A|B|A", reads: "a b", notes: "fuel b; fuel m", used: 4},
		{doc: `\def\undef\ifdef\include\undef\def`, notes: "macro def; macro undef; macro ifdef; macro include; macro undef; macro def"},
		{doc: `\def{z-}{0}{}\def{y-}{0}{}\def{z-}{0}{}`, notes: "name z-; name y-; name z-"},
	})
}

// P8.2: with all the fuel, and all the tokens, that may be.
func TestLimits(t *testing.T) {
	times := func(s string, n int) string { return strings.Repeat(s, n) }
	many := `\def{z}{1}{` + times("#1", 25) + `}\def{w}{1}{` + times("#1", 32) + `}\z{\z{\w{a}}}`
	wide := `\def{x}{1}{` + times("#1", 100) + `}\x{` + times(`\o`, 200) + `}`
	long := `\def{x}{1}{` + times("#1", 900) + `}\x{` + times(`\o`, 900) + `}`
	checkAll(t, 1000, 20000, []want{
		{doc: many, out: times("a|", 20000), used: 651},
		{doc: many + "}", out: times("a|", 20000), notes: "big ", used: 651},
		{doc: wide, out: times(`\o`, 20000), used: 1},
		{doc: wide + "}", out: "}", notes: "big x", used: 1},
		{doc: long + "}", out: "}", notes: "big x", used: 1},
		{doc: `\def{x}{1}{#1#1\x{#1#1}}\x{\o}`, out: times(`\o`, 16382), notes: "big x", used: 14},
		{doc: `\def{x}{0}{` + times(`\undef`, 500) + `\x}\x`, notes: times("macro undef;", 500000) + "fuel x", used: 1000},
	})
}

// roomy are files with room behind them.
func roomy(l []api.File) []api.File {
	return append(slices.Clone(l), api.File{Name: "room", Text: "r"}, api.File{Name: "b", Text: "wrong"})[:len(l)]
}

// spoil changes all that an answer has, and the room behind each list.
func spoil(o expand.Out) {
	l, reads, notes := o.L[:cap(o.L)], o.Reads[:cap(o.Reads)], o.Notes[:cap(o.Notes)]
	for i := range l {
		l[i] = lex.Token{Kind: -1, S: "spoilt"}
	}
	for i := range reads {
		reads[i] = "spoilt"
	}
	for i := range notes {
		notes[i] = api.Note{Err: -1, S: "spoilt"}
	}
}

// whole is a copy of an answer.
func whole(o expand.Out) expand.Out {
	return expand.Out{L: slices.Clone(o.L), Reads: slices.Clone(o.Reads), Notes: slices.Clone(o.Notes), Used: o.Used}
}

// R4: no file that is handed in is changed, nor the room behind them; no answer hangs on another one, nor on what is handed in.
func TestMemory(t *testing.T) {
	for _, doc := range []string{
		"", "a", "a b {c} #1 \\d", `\include{a}\include{b}`, `\include{none}\include{N}\include`, `\def{x}{1}{#1 #1}\x{a}\x{\x{b}}`,
		`\def{x}{0}{a b c}\x\x\x`, `\ifdef{x}{}{a b c}`, `\include{loop}`, `\def{x}{0}{a\x}\x`, strings.Repeat("a ", 100), includes(0, 40), `\include{room}`,
	} {
		l := roomy(library(t, doc))
		was := slices.Clone(l[:cap(l)])
		one, two := expanded(t, l, "m", 20, 60), expanded(t, l, "m", 20, 60)
		is := whole(two)
		if !sameOut(one, is) {
			t.Errorf("%q: %v, and then %v", doc, one, is)
		}
		spoil(one)
		if !slices.Equal(l[:cap(l)], was) {
			t.Errorf("%q: handed in %v; now %v", doc, was, l[:cap(l)])
		}
		if !sameOut(two, is) {
			t.Errorf("%q: one answer hangs on another one: %v; now %v", doc, is, two)
		}
		if three := expanded(t, l, "m", 20, 60); !sameOut(three, is) {
			t.Errorf("%q: %v, and then %v", doc, is, three)
		}
		for i := range l[:cap(l)] {
			l[:cap(l)][i] = api.File{Name: "spoilt", Text: "spoilt"}
		}
		if !sameOut(two, is) {
			t.Errorf("%q: the answer hangs on what was handed in: %v; now %v", doc, is, two)
		}
	}
}

// R3: a nil list of files and an empty one are the same.
func TestNoFiles(t *testing.T) {
	for _, main := range []string{"", "m", "M"} {
		a, b := expanded(t, nil, main, 9, 9), expanded(t, []api.File{}, main, 9, 9)
		if !sameOut(a, b) {
			t.Errorf("main %q: %v, and %v", main, a, b)
		}
	}
}
