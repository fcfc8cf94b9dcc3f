package lex

import (
	"math"
	"math/rand"
	"slices"
	"strings"
	"testing"
)

var (
	space = Token{Kind: Space}
	par   = Token{Kind: Par}
	open  = Token{Kind: Open}
	shut  = Token{Kind: Close}
)

func wordOf(s string) Token { return Token{Kind: Word, S: s} }

func commandOf(s string) Token { return Token{Kind: Command, S: s} }

func paramOf(s string) Token { return Token{Kind: Param, S: s} }

func wantTokens(t *testing.T, s string, want ...Token) {
	t.Helper()
	if l := Lex(s); !slices.Equal(l, want) {
		t.Errorf("Lex(%q) = %#v; want %#v", s, l, want)
	}
}

func wantText(t *testing.T, want string, l ...Token) {
	t.Helper()
	if s := Text(l); s != want {
		t.Errorf("Text(%#v) = %q; want %q", l, s, want)
	}
}

func wantRight(t *testing.T, want bool, l ...Token) {
	t.Helper()
	if Right(l) != want {
		t.Errorf("Right(%#v) = %t", l, !want)
	}
}

func isLetter(c rune) bool { return c >= 'a' && c <= 'z' || c >= 'A' && c <= 'Z' }

// piece is the least part of a text that is a token, or a part of one.
type piece struct {
	Token
	ends int
}

// pieces tells the pieces of a text by the document's words, a piece at a time, whatever stands ahead of it.
func pieces(s string) []piece {
	const small, great = "abcdefghijklmnopqrstuvwxyz", "ABCDEFGHIJKLMNOPQRSTUVWXYZ"
	among := func(i int, set string) bool { return i < len(s) && strings.IndexByte(set, s[i]) >= 0 }
	var l []piece
	for i := 0; i < len(s); {
		from := i
		i++
		switch {
		case s[from] == '%':
			for i < len(s) && s[i-1] != '\n' {
				i++
			}
			l = append(l, piece{Token: space})
		case s[from] == '\n':
			l = append(l, piece{Token: space, ends: 1})
		case among(from, " \t"):
			l = append(l, piece{Token: space})
		case s[from] == '{':
			l = append(l, piece{Token: open})
		case s[from] == '}':
			l = append(l, piece{Token: shut})
		case s[from] == '#' && among(i, "123456789"):
			i++
			l = append(l, piece{Token: paramOf(s[i-1 : i])})
		case s[from] == '\\' && among(i, small+great):
			for among(i, small+great) {
				i++
			}
			l = append(l, piece{Token: commandOf(s[from+1 : i])})
		case s[from] == '\\' && i < len(s):
			i++
			l = append(l, piece{Token: wordOf(s[i-1 : i])})
		default:
			l = append(l, piece{Token: wordOf(s[from:i])})
		}
	}
	return l
}

// modelLex joins the pieces of a text.
func modelLex(s string) []Token {
	var joined []piece
	for _, p := range pieces(s) {
		last := len(joined) - 1
		if last >= 0 && joined[last].Kind == p.Kind && (p.Kind == Word || p.Kind == Space) {
			joined[last].S += p.S
			joined[last].ends += p.ends
			continue
		}
		joined = append(joined, p)
	}
	var l []Token
	for _, p := range joined {
		if p.ends >= 2 {
			p.Kind = Par
		}
		l = append(l, p.Token)
	}
	return l
}

// modelRight tells by the document's words whether tokens are right.
func modelRight(l []Token) bool {
	for i, x := range l {
		letters := strings.IndexFunc(x.S, func(c rune) bool { return !isLetter(c) }) < 0
		switch {
		case x.Kind < 1, x.Kind > 7:
			return false
		case x.Kind == Word && len(x.S) == 0:
			return false
		case x.Kind == Command && (len(x.S) == 0 || !letters):
			return false
		case x.Kind == Param && !slices.Contains(strings.Split("1 2 3 4 5 6 7 8 9", " "), x.S):
			return false
		case slices.Contains([]int{Space, Par, Open, Close}, x.Kind) && len(x.S) > 0:
			return false
		}
		if i == 0 {
			continue
		}
		switch pair := [2]int{l[i-1].Kind, x.Kind}; pair {
		case [2]int{Word, Word}, [2]int{Space, Space}, [2]int{Space, Par}, [2]int{Par, Space}, [2]int{Par, Par}:
			return false
		case [2]int{Command, Word}:
			if isLetter(rune(x.S[0])) {
				return false
			}
		}
	}
	return true
}

// texts calls do with each text of at most so many of these bytes.
func texts(alphabet string, most int, do func(s string)) {
	var grow func(s string)
	grow = func(s string) {
		do(s)
		if len(s) == most {
			return
		}
		for i := range len(alphabet) {
			grow(s + alphabet[i:i+1])
		}
	}
	grow("")
}

// lists calls do with each list of at most so many of these tokens.
func lists(alphabet []Token, most int, do func(l []Token)) {
	var grow func(l []Token)
	grow = func(l []Token) {
		do(l)
		if len(l) == most {
			return
		}
		for _, t := range alphabet {
			grow(append(slices.Clone(l), t))
		}
	}
	grow(nil)
}

// randomText is a text in which the bytes that matter are about as many as the others.
func randomText(r *rand.Rand, size int) string {
	const some = " \t\n\\{}%#0129azAZ"
	b := make([]byte, size)
	for i := range b {
		b[i] = byte(r.Intn(256))
		if r.Intn(2) == 0 {
			b[i] = some[r.Intn(len(some))]
		}
	}
	return string(b)
}

// checkText holds what P6.1 to P6.3 say of a text.
func checkText(t *testing.T, s string) {
	t.Helper()
	l := Lex(s)
	if want := modelLex(s); !slices.Equal(l, want) {
		t.Fatalf("Lex(%q) = %#v; want %#v", s, l, want)
	}
	if !Right(l) {
		t.Fatalf("the tokens of %q are not right: %#v", s, l)
	}
	if again := Lex(Text(l)); !slices.Equal(again, l) {
		t.Fatalf("the tokens of %q are %#v; of the Text of these %#v", s, l, again)
	}
}

func TestKinds(t *testing.T) {
	kinds := []int{Word, Space, Par, Command, Open, Close, Param, Kinds}
	if !slices.Equal(kinds, []int{1, 2, 3, 4, 5, 6, 7, 8}) {
		t.Errorf("kinds %v", kinds)
	}
}

// P6.1: the document's examples, and the empty text.
func TestExamples(t *testing.T) {
	wantTokens(t, `a\%b`, wordOf("a%b"))
	wantTokens(t, `\cite{x}%y`, commandOf("cite"), open, wordOf("x"), shut, space)
	wantTokens(t, "")
}

// P6.1
func TestGaps(t *testing.T) {
	for _, s := range []string{
		" ", "\t", "\n", "  ", " \t ", " \n", "\n ", "\t\n\t",
		"%", "%x", "%\n", "%x y\n", "%\\", "%\\\n", "%{#1}\n", "%%", "%%\n%",
		"%a\n%b\n", "%a\n%b\n%c\n%d", "%a\n\n", "\n%a\n", "\n%a", "%a\n\n%b\n", " %a\n \n\t%b\n ", "%\n%\n%\n\n",
	} {
		wantTokens(t, s, space)
		wantTokens(t, "a"+s, wordOf("a"), space)
		wantTokens(t, "{"+s, open, space)
	}
	for _, s := range []string{
		"\n\n", "\n\n\n", "\n \n", "\n\t\n", " \n \t \n ", "\n%a\n\n", "\n%a\n \n", "\n%\n%\n\n", "\n\n%", "\n\n%a",
		"%a\n\n\n", "%\n\n%\n\n", "\n%a\n\n%b\n", " \n %a\n %b\n\t\n ", strings.Repeat("\n", 100), "\n" + strings.Repeat("%\n", 100) + "\n",
	} {
		wantTokens(t, s, par)
		wantTokens(t, "a"+s, wordOf("a"), par)
		wantTokens(t, "}"+s, shut, par)
	}
	wantTokens(t, "a b", wordOf("a"), space, wordOf("b"))
	wantTokens(t, "a%b\nc", wordOf("a"), space, wordOf("c"))
	wantTokens(t, "a%b\n\nc", wordOf("a"), space, wordOf("c"))
	wantTokens(t, "a\n%b\n\nc", wordOf("a"), par, wordOf("c"))
	wantTokens(t, "a%\\b{#1\nc", wordOf("a"), space, wordOf("c"))
	// Each run of blanks counts its own bytes 10.
	wantTokens(t, "\na\nb\n", space, wordOf("a"), space, wordOf("b"), space)
	wantTokens(t, "\n\na\n", par, wordOf("a"), space)
	// Bytes that are blanks elsewhere are none here.
	for _, s := range []string{"\r", "\v", "\f", "\x00", "\u00a0", "\u0085"} {
		wantTokens(t, "\n"+s+"\n", space, wordOf(s), space)
	}
	// A remark ends at a byte 10 alone.
	wantTokens(t, "%a\rb\nc", space, wordOf("c"))
}

// P6.1
func TestEscapes(t *testing.T) {
	for c := range 256 {
		b := string([]byte{byte(c)})
		if isLetter(rune(c)) {
			wantTokens(t, "\\"+b, commandOf(b))
			wantTokens(t, "x\\"+b, wordOf("x"), commandOf(b))
			continue
		}
		wantTokens(t, "\\"+b, wordOf(b))
		wantTokens(t, "x\\"+b+"y", wordOf("x"+b+"y"))
		wantTokens(t, "\\"+b+"\\"+b, wordOf(b+b))
		wantTokens(t, "{\\"+b+"}", open, wordOf(b), shut)
		wantTokens(t, "\\q\\"+b+"y", commandOf("q"), wordOf(b+"y"))
	}
	wantTokens(t, `\`, wordOf(`\`))
	wantTokens(t, `x\`, wordOf(`x\`))
	wantTokens(t, `\\`, wordOf(`\`))
	wantTokens(t, `\\\`, wordOf(`\\`))
	wantTokens(t, `\\\\`, wordOf(`\\`))
	wantTokens(t, `{\`, open, wordOf(`\`))
	wantTokens(t, ` \`, space, wordOf(`\`))
	wantTokens(t, `\q\`, commandOf("q"), wordOf(`\`))
	wantTokens(t, `\\q`, wordOf(`\q`))
	wantTokens(t, `\\\q`, wordOf(`\`), commandOf("q"))
	wantTokens(t, `\%q`, wordOf(`%q`))
	wantTokens(t, `\\%q`, wordOf(`\`), space)
	wantTokens(t, "\\\n\n", wordOf("\n"), space)
	wantTokens(t, "\n\\\n\n", space, wordOf("\n"), space)
	wantTokens(t, `a\ b\	c`, wordOf("a b\tc"))
	wantTokens(t, "\\\u00e9x", wordOf("\u00e9x"))
}

// P6.1
func TestCommands(t *testing.T) {
	wantTokens(t, `\a`, commandOf("a"))
	wantTokens(t, `\azAZ`, commandOf("azAZ"))
	wantTokens(t, `\a1b`, commandOf("a"), wordOf("1b"))
	wantTokens(t, `\a{b}`, commandOf("a"), open, wordOf("b"), shut)
	wantTokens(t, `\a}`, commandOf("a"), shut)
	wantTokens(t, `\a b`, commandOf("a"), space, wordOf("b"))
	wantTokens(t, "\\a\n\nb", commandOf("a"), par, wordOf("b"))
	wantTokens(t, "\\a%\nb", commandOf("a"), space, wordOf("b"))
	wantTokens(t, `\a\b`, commandOf("a"), commandOf("b"))
	wantTokens(t, `\a#1`, commandOf("a"), paramOf("1"))
	wantTokens(t, `\a#b`, commandOf("a"), wordOf("#b"))
	wantTokens(t, `\a@b`, commandOf("a"), wordOf("@b"))
	wantTokens(t, "\\a\u00e9", commandOf("a"), wordOf("\u00e9"))
	wantTokens(t, "\\a\x80b", commandOf("a"), wordOf("\x80b"))
	wantTokens(t, `a\b`, wordOf("a"), commandOf("b"))
	long := strings.Repeat("aZ", 5000)
	wantTokens(t, `\`+long, commandOf(long))
	// The bytes beside the letters are none.
	for _, c := range []string{"@", "[", "`", "{", "0", "9", "_"} {
		if l := Lex(`\a` + c + "b"); len(l) < 2 || l[0] != commandOf("a") {
			t.Errorf("Lex(%q) = %#v", `\a`+c+"b", l)
		}
	}
}

// P6.1
func TestParams(t *testing.T) {
	for _, d := range strings.Split("1 2 3 4 5 6 7 8 9", " ") {
		wantTokens(t, "#"+d, paramOf(d))
		wantTokens(t, "a#"+d+"b", wordOf("a"), paramOf(d), wordOf("b"))
		wantTokens(t, "#"+d+d, paramOf(d), wordOf(d))
		wantTokens(t, `\#`+d, wordOf("#"+d))
		wantTokens(t, `\##`+d, wordOf("#"), paramOf(d))
	}
	wantTokens(t, "#", wordOf("#"))
	wantTokens(t, "a#", wordOf("a#"))
	wantTokens(t, "##", wordOf("##"))
	wantTokens(t, "##1", wordOf("#"), paramOf("1"))
	wantTokens(t, "#1#2", paramOf("1"), paramOf("2"))
	wantTokens(t, "#0", wordOf("#0"))
	wantTokens(t, "#01", wordOf("#01"))
	wantTokens(t, "#10", paramOf("1"), wordOf("0"))
	wantTokens(t, "#a", wordOf("#a"))
	wantTokens(t, "#:", wordOf("#:"))
	wantTokens(t, "#/", wordOf("#/"))
	wantTokens(t, "#{1}", wordOf("#"), open, wordOf("1"), shut)
	wantTokens(t, "# 1", wordOf("#"), space, wordOf("1"))
	wantTokens(t, "#%\n1", wordOf("#"), space, wordOf("1"))
	wantTokens(t, `#\1`, wordOf("#1"))
	wantTokens(t, "#\\", wordOf("#\\"))
	wantTokens(t, `#\a`, wordOf("#"), commandOf("a"))
}

// P6.1
func TestBraces(t *testing.T) {
	wantTokens(t, "{", open)
	wantTokens(t, "}", shut)
	wantTokens(t, "{}", open, shut)
	wantTokens(t, "}{", shut, open)
	wantTokens(t, "{{{", open, open, open)
	wantTokens(t, "}}}", shut, shut, shut)
	wantTokens(t, "a{b}c", wordOf("a"), open, wordOf("b"), shut, wordOf("c"))
	wantTokens(t, `\{a\}`, wordOf("{a}"))
}

// P6.1: each byte alone, ahead of each other one, and behind it.
func TestLexOfAllPairs(t *testing.T) {
	for a := range 256 {
		for b := range 256 {
			pair := string([]byte{byte(a), byte(b)})
			checkText(t, pair[:1])
			checkText(t, pair)
			checkText(t, "x"+pair+"y")
			checkText(t, "\\"+pair)
		}
	}
}

// P6.1 to P6.3
func TestLexOfShortTexts(t *testing.T) {
	texts(" \n\\{%#10a", 5, func(s string) { checkText(t, s) })
	texts("\t\n\\%#1z", 6, func(s string) { checkText(t, s) })
	texts("\n%\\", 9, func(s string) { checkText(t, s) })
}

// P6.1 to P6.3
func TestLexOfManyTexts(t *testing.T) {
	r := rand.New(rand.NewSource(6))
	for range 20000 {
		checkText(t, randomText(r, r.Intn(60)))
	}
	for range 100 {
		checkText(t, randomText(r, 4000))
	}
}

// P6.1, R1: what a text costs grows no faster than the text does.
func TestLexOfLongTexts(t *testing.T) {
	for _, s := range []string{"\\", "a", "\n", "%", "%\n", "#", "#1", "{", "a ", "\\a", "\\ ", " \\"} {
		long := strings.Repeat(s, 1<<20/len(s))
		l := Lex(long)
		if len(l) == 0 || !Right(l) || !slices.Equal(Lex(Text(l)), l) {
			t.Errorf("%q, again and again: %d tokens", s, len(l))
		}
	}
}

// P6.2
func TestText(t *testing.T) {
	wantText(t, "")
	wantText(t, "a", wordOf("a"))
	wantText(t, "", wordOf(""))
	wantText(t, " ", space)
	wantText(t, "\n\n", par)
	wantText(t, "\\ab", commandOf("ab"))
	wantText(t, "{", open)
	wantText(t, "}", shut)
	wantText(t, "#1", paramOf("1"))
	wantText(t, "\\cite{x} y\n\nz#2", commandOf("cite"), open, wordOf("x"), shut, space, wordOf("y"), par, wordOf("z"), paramOf("2"))
	wantText(t, "\\ \\\t\\\n\\\\\\{\\}\\%\\#", wordOf(" \t\n\\{}%#"))
	wantText(t, "\\#1\\##1", wordOf("#1#"), paramOf("1"))
	for c := range 256 {
		b := string([]byte{byte(c)})
		want := b
		if strings.Contains(" \t\n\\{}%#", b) {
			want = "\\" + b
		}
		wantText(t, want, wordOf(b))
		wantText(t, "x"+want+"y", wordOf("x"+b+"y"))
		wantText(t, want+want, wordOf(b+b))
		// Only a Word's bytes get a backslash.
		wantText(t, "\\"+b, commandOf(b))
		wantText(t, "#"+b, paramOf(b))
	}
}

// P6.2: Text of tokens that are not right.
func TestTextOfWrongTokens(t *testing.T) {
	for _, kind := range []int{math.MinInt, -1 << 32, -256, -7, -2, -1, 0, Kinds, Kinds + 1, 9, 16, 257, 258, 1<<32 + 1, math.MaxInt} {
		wantText(t, "", Token{Kind: kind})
		wantText(t, "", Token{Kind: kind, S: "x{"})
		wantText(t, "ab", wordOf("a"), Token{Kind: kind, S: "x"}, wordOf("b"))
	}
	wantText(t, "ab", wordOf("a"), wordOf("b"))
	wantText(t, " \n\n \n\n\n\n", space, par, space, par, par)
	wantText(t, "  ", space, space)
	wantText(t, "\\xa", commandOf("x"), wordOf("a"))
	wantText(t, "\\", commandOf(""))
	wantText(t, "\\a 1", commandOf("a 1"))
	wantText(t, "#", paramOf(""))
	wantText(t, "#12", paramOf("12"))
	wantText(t, "#{\\", paramOf("{\\"))
	wantText(t, " \n\n{}", Token{Space, "a"}, Token{Par, "b"}, Token{Open, "c"}, Token{Close, "d"})
}

// P6.1
func TestRight(t *testing.T) {
	wantRight(t, true)
	wantRight(t, true, []Token{}...)
	for c := range 256 {
		b := string([]byte{byte(c)})
		wantRight(t, true, wordOf(b))
		wantRight(t, isLetter(rune(c)), commandOf(b))
		wantRight(t, isLetter(rune(c)), commandOf("a"+b))
		wantRight(t, isLetter(rune(c)), commandOf(b+"Z"))
		wantRight(t, b >= "1" && b <= "9", paramOf(b))
		wantRight(t, false, paramOf("1"+b))
		wantRight(t, false, paramOf(b+"1"))
		wantRight(t, !isLetter(rune(c)), commandOf("x"), wordOf(b))
		wantRight(t, !isLetter(rune(c)), commandOf("x"), wordOf(b+"1"))
		wantRight(t, true, commandOf("x"), wordOf("1"+b))
		wantRight(t, true, commandOf("x"), space, wordOf(b))
		wantRight(t, true, open, wordOf(b), shut)
		wantRight(t, false, wordOf(b), wordOf(b))
		for _, kind := range []int{Space, Par, Open, Close} {
			wantRight(t, false, Token{Kind: kind, S: b})
		}
	}
	for _, kind := range []int{Space, Par, Open, Close} {
		wantRight(t, true, Token{Kind: kind})
		wantRight(t, false, Token{Kind: kind, S: "ab"})
	}
	for _, kind := range []int{Word, Command, Param} {
		wantRight(t, false, Token{Kind: kind})
		wantRight(t, false, open, Token{Kind: kind})
		wantRight(t, false, commandOf("x"), Token{Kind: kind})
	}
	for _, kind := range []int{math.MinInt, -256, -7, -1, 0, Kinds, Kinds + 1, 257, 1<<32 + 2, math.MaxInt} {
		wantRight(t, false, Token{Kind: kind})
		wantRight(t, false, Token{Kind: kind, S: "a"})
		wantRight(t, false, Token{Kind: kind, S: "1"})
		wantRight(t, false, open, Token{Kind: kind}, shut)
	}
	for _, gap := range [][]Token{{space, space}, {space, par}, {par, space}, {par, par}} {
		wantRight(t, false, gap...)
		wantRight(t, false, append([]Token{open}, gap...)...)
		wantRight(t, false, append(gap, shut)...)
		wantRight(t, true, gap[0], open, gap[1])
		wantRight(t, true, gap[0], wordOf("a"), gap[1])
	}
	wantRight(t, true, commandOf("x"), commandOf("y"), wordOf("1a"))
	wantRight(t, true, paramOf("1"), wordOf("2"), paramOf("1"), paramOf("1"), wordOf("a"))
	wantRight(t, true, wordOf("a"), commandOf("b"), wordOf(" c"))
}

// P6.1, P6.3: tokens are right where the document's words say so, and these are the ones that come back.
func TestRightOfShortLists(t *testing.T) {
	few := []Token{
		{}, {Kind: Kinds}, {Kind: -1, S: "a"}, {Kind: Kinds, S: "1"},
		wordOf(""), wordOf("a"), wordOf("1"), wordOf(" a"), wordOf("#"), wordOf("\\"), wordOf("%\n"), wordOf("\xff"), wordOf("{}"),
		space, {Kind: Space, S: " "}, par, {Kind: Par, S: "\n"},
		commandOf(""), commandOf("a"), commandOf("aZ"), commandOf("a1"), commandOf("1"), commandOf("{"),
		open, {Kind: Open, S: "{"}, shut, {Kind: Close, S: "}"},
		paramOf(""), paramOf("0"), paramOf("1"), paramOf("9"), paramOf("12"), paramOf("a"),
	}
	right := 0
	check := func(l []Token) {
		want := modelRight(l)
		if Right(l) != want {
			t.Fatalf("Right(%#v) = %t", l, !want)
		}
		if back := Lex(Text(l)); slices.Equal(back, l) != want {
			t.Fatalf("%#v is right: %t; the tokens of its Text are %#v", l, want, back)
		}
		checkText(t, Text(l))
		if want {
			right++
		}
	}
	lists(few, 3, check)
	whole := slices.DeleteFunc(slices.Clone(few), func(x Token) bool { return !modelRight([]Token{x}) })
	lists(whole, 4, check)
	if right < 10000 {
		t.Fatalf("only %d lists are right", right)
	}
}

// P6.3: right tokens whose Words are of any bytes.
func TestTextOfManyRightTokens(t *testing.T) {
	r := rand.New(rand.NewSource(63))
	for range 20000 {
		var l []Token
		for range r.Intn(12) {
			x := Token{Kind: 1 + r.Intn(Kinds-1)}
			switch x.Kind {
			case Word:
				x.S = randomText(r, 1+r.Intn(5))
			case Command:
				x.S = strings.Repeat(string("azAZ"[r.Intn(4)]), 1+r.Intn(3))
			case Param:
				x.S = string("123456789"[r.Intn(9)])
			}
			if modelRight(append(slices.Clone(l), x)) {
				l = append(l, x)
			}
		}
		if !Right(l) {
			t.Fatalf("Right(%#v) = false", l)
		}
		if back := Lex(Text(l)); !slices.Equal(back, l) {
			t.Fatalf("%#v comes back as %#v", l, back)
		}
	}
}

// R4: what is handed in stays as it was, also the room behind it.
func TestHandedInStays(t *testing.T) {
	room := Lex(`\a{b#1} c\% d%`)
	was := slices.Clone(room)
	for n := range len(room) + 1 {
		Text(room[:n])
		Right(room[:n])
	}
	if !slices.Equal(room, was) {
		t.Errorf("handed in %#v; now %#v", was, room)
	}
}

// R4, R5: an answer is new memory, and the same each time.
func TestAnswersAreApart(t *testing.T) {
	s := "\\a{b#1}\n\nc\\% d%"
	one, two := Lex(s), Lex(s)
	want := slices.Clone(one)
	for i := range one[:cap(one)] {
		one[:cap(one)][i] = Token{Kind: -1, S: "x"}
	}
	if !slices.Equal(two, want) || !slices.Equal(Lex(s), want) {
		t.Errorf("answers hang together: %#v, %#v; want %#v", two, Lex(s), want)
	}
}
