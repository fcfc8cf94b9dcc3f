package macro

import (
	"maps"
	"math"
	"math/rand"
	"slices"
	"strconv"
	"strings"
	"testing"

	"stet/api"
	"stet/lex"
)

var (
	space = lex.Token{Kind: lex.Space}
	par   = lex.Token{Kind: lex.Par}
	open  = lex.Token{Kind: lex.Open}
	shut  = lex.Token{Kind: lex.Close}
	junk  = lex.Token{Kind: -1, S: "junk"}
)

// strange are numbers that are no kinds.
var strange = []int{math.MinInt, -1 << 32, -256, -8, -1, 0, lex.Kinds, lex.Kinds + 1, 16, 256 + lex.Open, 1<<32 + lex.Open, math.MaxInt}

func wordOf(s string) lex.Token { return lex.Token{Kind: lex.Word, S: s} }

func commandOf(s string) lex.Token { return lex.Token{Kind: lex.Command, S: s} }

func paramOf(s string) lex.Token { return lex.Token{Kind: lex.Param, S: s} }

func wantGroup(t *testing.T, l []lex.Token, at, to int, e api.Errno) {
	t.Helper()
	if got, is := Group(l, at); got != to || is != e {
		t.Errorf("Group(%v, %d) = %d, %d; want %d, %d", l, at, got, is, to, e)
	}
}

// wantArgs holds the answer against the texts of the groups.
func wantArgs(t *testing.T, l []lex.Token, at, n, to int, texts ...string) {
	t.Helper()
	args, got, e := Args(l, at, n)
	var s []string
	for _, a := range args {
		s = append(s, lex.Text(a))
	}
	if e != api.OK || got != to || !slices.Equal(s, texts) {
		t.Errorf("Args(%v, %d, %d) = %q, %d, %d; want %q, %d", l, at, n, s, got, e, texts, to)
	}
}

func wantNoArgs(t *testing.T, l []lex.Token, at, n int, e api.Errno) {
	t.Helper()
	if args, to, is := Args(l, at, n); is != e || len(args) != 0 || to != 0 {
		t.Errorf("Args(%v, %d, %d) = %v, %d, %d; want the error %d alone", l, at, n, args, to, is, e)
	}
}

func wantFill(t *testing.T, body []lex.Token, args [][]lex.Token, want ...lex.Token) {
	t.Helper()
	if l := Fill(body, args); !slices.Equal(l, want) {
		t.Errorf("Fill(%v, %v) = %v; want %v", body, args, l, want)
	}
}

func wantFlat(t *testing.T, want string, l ...lex.Token) {
	t.Helper()
	if s := Flat(l); s != want {
		t.Errorf("Flat(%v) = %q; want %q", l, s, want)
	}
}

func wantWord(t *testing.T, want string, yes bool, l ...lex.Token) {
	t.Helper()
	if s, is := Word(l); s != want || is != yes {
		t.Errorf("Word(%v) = %q, %t", l, s, is)
	}
}

// modelGroup tries each Close behind the Open, and counts anew for each.
func modelGroup(l []lex.Token, at int) (int, api.Errno) {
	if at < 0 || at > len(l) {
		return 0, api.ErrArg
	}
	for end := at; end < len(l) && l[at].Kind == lex.Open; end++ {
		opens, closes := 0, 0
		for _, t := range l[at : end+1] {
			switch t.Kind {
			case lex.Open:
				opens++
			case lex.Close:
				closes++
			}
		}
		if opens == closes && l[end].Kind == lex.Close {
			return end + 1, api.OK
		}
	}
	return 0, api.ErrMacro
}

// modelArgs takes one group, and asks itself for the others.
func modelArgs(l []lex.Token, at, n int) ([][]lex.Token, int, api.Errno) {
	if at < 0 || at > len(l) || n < 0 || n > 9 {
		return nil, 0, api.ErrArg
	}
	if n == 0 {
		return nil, at, api.OK
	}
	if at < len(l) && l[at].Kind == lex.Space {
		return modelArgs(l, at+1, n)
	}
	to, e := modelGroup(l, at)
	if e != api.OK {
		return nil, 0, e
	}
	more, end, e := modelArgs(l, to, n-1)
	if e != api.OK {
		return nil, 0, e
	}
	within := slices.Clone(l[at:to])
	within = slices.Delete(within, 0, 1)
	within = slices.Delete(within, len(within)-1, len(within))
	return append([][]lex.Token{within}, more...), end, api.OK
}

// modelFill puts in one Param's tokens at a time, from behind, so that what was put in is not looked at again.
func modelFill(body []lex.Token, args [][]lex.Token) []lex.Token {
	l := slices.Clone(body)
	for i := len(body) - 1; i >= 0; i-- {
		if body[i].Kind != lex.Param {
			continue
		}
		var with []lex.Token
		for n, a := range args {
			if body[i].S == strconv.Itoa(n+1) && n < 9 {
				with = a
			}
		}
		l = slices.Replace(l, i, i+1, with...)
	}
	return l
}

// modelFlat makes all blanks, and takes away those that are too many one by one.
func modelFlat(l []lex.Token) string {
	s := ""
	for _, t := range l {
		s += map[int]string{lex.Word: t.S, lex.Space: " ", lex.Par: " "}[t.Kind]
	}
	for strings.Contains(s, "  ") {
		s = strings.Replace(s, "  ", " ", 1)
	}
	return strings.TrimPrefix(strings.TrimSuffix(s, " "), " ")
}

func sameLists(a, b [][]lex.Token) bool {
	return slices.EqualFunc(a, b, slices.Equal[[]lex.Token])
}

// checkTokens holds all that P7.1, P7.2 and P7.4 say of a list of tokens.
func checkTokens(t *testing.T, l []lex.Token, most int) {
	t.Helper()
	for at := -1; at <= len(l)+1; at++ {
		to, e := Group(l, at)
		if wantTo, want := modelGroup(l, at); to != wantTo || e != want {
			t.Fatalf("Group(%v, %d) = %d, %d; want %d, %d", l, at, to, e, wantTo, want)
		}
		for n := range most + 1 {
			args, to, e := Args(l, at, n)
			if want, wantTo, wantE := modelArgs(l, at, n); !sameLists(args, want) || to != wantTo || e != wantE {
				t.Fatalf("Args(%v, %d, %d) = %v, %d, %d; want %v, %d, %d", l, at, n, args, to, e, want, wantTo, wantE)
			}
			for _, a := range args {
				wantLevel(t, a)
			}
		}
	}
	if s, want := Flat(l), modelFlat(l); s != want {
		t.Fatalf("Flat(%v) = %q; want %q", l, s, want)
	}
	bare := slices.DeleteFunc(slices.Clone(l), func(t lex.Token) bool { return t.Kind == lex.Param })
	if got := Fill(l, nil); !slices.Equal(got, bare) {
		t.Fatalf("Fill(%v, nil) = %v; want %v", l, got, bare)
	}
}

// wantLevel is P7.4's first sentence.
func wantLevel(t *testing.T, l []lex.Token) {
	t.Helper()
	level := 0
	for _, x := range l {
		level += map[int]int{lex.Open: 1, lex.Close: -1}[x.Kind]
		if level < 0 {
			t.Fatalf("a Close without an Open within a group: %v", l)
		}
	}
	if level != 0 {
		t.Fatalf("within a group are %d more Opens than Closes: %v", level, l)
	}
}

// lists calls do with each list of at most so many of these tokens.
func lists(alphabet []lex.Token, most int, do func(l []lex.Token)) {
	var grow func(l []lex.Token)
	grow = func(l []lex.Token) {
		do(l)
		if len(l) == most {
			return
		}
		for _, t := range alphabet {
			grow(append(slices.Clone(l), t))
		}
	}
	grow(nil)
}

// randomTokens has about as many Opens as Closes, and some tokens of each other kind, and of none.
func randomTokens(r *rand.Rand, size int) []lex.Token {
	var l []lex.Token
	for range size {
		t := lex.Token{Kind: r.Intn(lex.Kinds + 1)}
		switch {
		case r.Intn(2) == 0:
			t.Kind = []int{lex.Open, lex.Close, lex.Space}[r.Intn(3)]
		case t.Kind == lex.Param:
			t.S = strconv.Itoa(1 + r.Intn(9))
		case r.Intn(20) == 0:
			t.Kind = strange[r.Intn(len(strange))]
			fallthrough
		default:
			t.S = []string{"", " ", "a", " a", "a ", "a  b", "\t", "\n \n", "\xff", "{", "}", "1"}[r.Intn(12)]
		}
		l = append(l, t)
	}
	return l
}

// roomy is a list with room behind it, in which other tokens stand.
func roomy(l []lex.Token) []lex.Token {
	return append(slices.Clone(l), junk, space, open)[:len(l)]
}

// spoil changes all of a list, and the room behind it.
func spoil(l []lex.Token) {
	l = l[:cap(l)]
	for i := range l {
		l[i] = lex.Token{Kind: -2, S: "spoilt"}
	}
}

// P7.1: the document's example, and each place of it.
func TestGroup(t *testing.T) {
	l := lex.Lex("{a{b}} c")
	wantGroup(t, l, 0, 6, api.OK)
	wantGroup(t, l, 2, 5, api.OK)
	for _, at := range []int{1, 3, 4, 5, 6, 7, 8} {
		wantGroup(t, l, at, 0, api.ErrMacro)
	}
	for _, at := range []int{-1, 9, 10, math.MinInt, math.MinInt + 1, math.MaxInt, math.MaxInt - 1} {
		wantGroup(t, l, at, 0, api.ErrArg)
		wantGroup(t, nil, at, 0, api.ErrArg)
	}
	wantGroup(t, nil, 0, 0, api.ErrMacro)
	wantGroup(t, []lex.Token{}, 0, 0, api.ErrMacro)
	wantGroup(t, nil, 1, 0, api.ErrArg)
}

// P7.1
func TestGroupEnds(t *testing.T) {
	for _, c := range []struct {
		s      string
		at, to int
	}{
		{"{}", 0, 2}, {"{}}", 0, 2}, {"{}{}", 0, 2}, {"{}{}", 2, 4}, {"{{}}", 0, 4}, {"{{}}", 1, 3}, {"{{}{}}", 0, 6}, {"{{}{}}", 3, 5},
		{"{{{}}}", 0, 6}, {"{a b}", 0, 5}, {"x{a}", 1, 4}, {"}{}", 1, 3}, {"{}{", 0, 2}, {"{{}", 1, 3}, {"{\n\n}", 0, 3}, {`{\a#1}`, 0, 4},
	} {
		wantGroup(t, lex.Lex(c.s), c.at, c.to, api.OK)
	}
	for _, c := range []struct {
		s  string
		at int
	}{
		{"{", 0}, {"{{", 0}, {"{{", 1}, {"{{}", 0}, {"{}{", 2}, {"{a", 0}, {"{a{b}", 0}, {"}", 0}, {"}{}", 0}, {"{}", 1}, {"{}", 2}, {" {}", 0},
		{"\n\n{}", 0}, {"a", 0}, {`\{a}`, 0}, {`\a{}`, 0}, {"#1{}", 0}, {"{{}{}", 0}, {`{\}`, 0}, {"{%}", 0},
	} {
		wantGroup(t, lex.Lex(c.s), c.at, 0, api.ErrMacro)
	}
}

// P7.1: a token's kind tells what it is, its S does not.
func TestGroupKinds(t *testing.T) {
	wantGroup(t, []lex.Token{{Kind: lex.Open, S: "}"}, wordOf("}"), {Kind: lex.Close, S: "{"}}, 0, 3, api.OK)
	wantGroup(t, []lex.Token{open, wordOf("{"), commandOf("}"), paramOf("{"), shut}, 0, 5, api.OK)
	for _, kind := range strange {
		x := lex.Token{Kind: kind}
		wantGroup(t, []lex.Token{x, shut}, 0, 0, api.ErrMacro)
		wantGroup(t, []lex.Token{open, x}, 0, 0, api.ErrMacro)
		wantGroup(t, []lex.Token{open, x, shut}, 0, 3, api.OK)
	}
}

// P7.1: deep and long groups, and what they cost.
func TestGroupOfMany(t *testing.T) {
	const n = 1 << 20
	l := append(slices.Repeat([]lex.Token{open}, n), slices.Repeat([]lex.Token{shut}, n)...)
	for _, at := range []int{0, 1, n / 2, n - 1} {
		wantSmall(t, l, at, 2*n-at, api.OK)
		wantSmall(t, l[:2*n-at-1], at, 0, api.ErrMacro)
	}
	l = append([]lex.Token{open}, slices.Repeat([]lex.Token{open, shut}, n)...)
	wantSmall(t, l, 0, 0, api.ErrMacro)
	wantSmall(t, append(l, shut), 0, 2*n+2, api.OK)
}

// wantSmall is wantGroup without the tokens in what it tells.
func wantSmall(t *testing.T, l []lex.Token, at, to int, e api.Errno) {
	t.Helper()
	if got, is := Group(l, at); got != to || is != e {
		t.Errorf("Group at %d of %d = %d, %d; want %d, %d", at, len(l), got, is, to, e)
	}
}

// P7.1: the document's example, and blanks in all places.
func TestArgs(t *testing.T) {
	wantArgs(t, lex.Lex(" {x}{y z}"), 0, 2, 9, "x", "y z")
	wantArgs(t, lex.Lex(" {x}{y z}"), 1, 2, 9, "x", "y z")
	wantArgs(t, lex.Lex(" {x}{y z}"), 0, 1, 4, "x")
	wantArgs(t, lex.Lex(" {x}{y z}"), 4, 1, 9, "y z")
	wantArgs(t, lex.Lex("{}"), 0, 1, 2, "")
	wantArgs(t, lex.Lex("{} {}"), 0, 2, 5, "", "")
	wantArgs(t, lex.Lex("{a} {b} "), 0, 2, 7, "a", "b")
	wantArgs(t, lex.Lex("{ a }"), 0, 1, 5, " a ")
	wantArgs(t, lex.Lex("{\n\n}"), 0, 1, 3, "\n\n")
	wantArgs(t, lex.Lex("{{a}}"), 0, 1, 5, "{a}")
	wantArgs(t, lex.Lex("{{}{{}}} {}"), 0, 2, 11, "{}{{}}", "")
	wantArgs(t, lex.Lex("{a}}"), 0, 1, 3, "a")
	wantArgs(t, lex.Lex("{a}{"), 0, 1, 3, "a")
	wantArgs(t, lex.Lex(`{\a #1}%x`+"\n{b}"), 0, 2, 9, `\a #1`, "b")
	// Several Spaces in a row, as only lists that Lex does not tell have them.
	wantArgs(t, []lex.Token{space, space, space, open, wordOf("a"), shut, space, space, open, shut, space}, 0, 2, 10, "a", "")
	wantArgs(t, []lex.Token{{Kind: lex.Space, S: "x"}, open, shut}, 0, 1, 3, "")
}

// P7.1
func TestArgsThatAreNotThere(t *testing.T) {
	for _, c := range []struct {
		s     string
		at, n int
	}{
		{"", 0, 1}, {" ", 0, 1}, {" ", 1, 1}, {"{a}", 0, 2}, {"{a} ", 0, 2}, {"{a}{", 0, 2}, {"{a}{b", 0, 2}, {"{a}}", 0, 2}, {"{a}x{b}", 0, 2},
		{"\n\n{a}", 0, 1}, {"{a}\n\n{b}", 0, 2}, {"{a}", 1, 1}, {"{a}", 3, 1}, {"a{a}", 0, 1}, {"{", 0, 1}, {"}", 0, 1}, {`\a{}`, 0, 1},
		{"{}{}{}{}{}{}{}{}", 0, 9},
	} {
		wantNoArgs(t, lex.Lex(c.s), c.at, c.n, api.ErrMacro)
	}
	for _, gap := range [][]lex.Token{{space, par}, {par, space}, {par}} {
		wantNoArgs(t, append(gap, open, shut), 0, 1, api.ErrMacro)
	}
}

// P7.1
func TestArgsEdges(t *testing.T) {
	nine := lex.Lex("{1}{2}{3}{4}{5}{6}{7}{8}{9}{0}")
	digits := strings.Split("123456789", "")
	for n := range 10 {
		wantArgs(t, nine, 0, n, 3*n, digits[:n]...)
	}
	for _, n := range []int{-1, 10, 11, math.MinInt, math.MaxInt} {
		for _, at := range []int{0, 3, len(nine), -1, len(nine) + 1, math.MinInt, math.MaxInt} {
			wantNoArgs(t, nine, at, n, api.ErrArg)
		}
		wantNoArgs(t, nil, 0, n, api.ErrArg)
	}
	for _, at := range []int{-1, len(nine) + 1, math.MinInt, math.MaxInt} {
		for n := range 10 {
			wantNoArgs(t, nine, at, n, api.ErrArg)
			wantNoArgs(t, nil, at, n, api.ErrArg)
		}
	}
	// Of no groups no blank is skipped.
	blank := lex.Lex(" {a} x")
	for at := range len(blank) + 1 {
		wantArgs(t, blank, at, 0, at)
	}
	wantArgs(t, nil, 0, 0, 0)
	wantNoArgs(t, nine, len(nine), 1, api.ErrMacro)
	wantNoArgs(t, nine, len(nine)-1, 1, api.ErrMacro)
	wantArgs(t, nine, len(nine)-3, 1, len(nine), "0")
}

// P7.2: the document's example, and each Param with each number of args.
func TestFill(t *testing.T) {
	a, b := lex.Lex("a"), lex.Lex("b")
	wantFill(t, lex.Lex("#2#1"), [][]lex.Token{a, b}, wordOf("b"), wordOf("a"))
	var args [][]lex.Token
	for i := range 12 {
		for n := 1; n <= 9; n++ {
			p := paramOf(strconv.Itoa(n))
			if n > i {
				wantFill(t, []lex.Token{p}, args)
				wantFill(t, []lex.Token{open, p, p, shut}, args, open, shut)
				continue
			}
			x := wordOf("x" + strconv.Itoa(n))
			wantFill(t, []lex.Token{p}, args, x, space)
			wantFill(t, []lex.Token{open, p, p, shut}, args, open, x, space, x, space, shut)
		}
		args = append(args, []lex.Token{wordOf("x" + strconv.Itoa(i+1)), space})
	}
}

// P7.2, P7.4
func TestFillEdges(t *testing.T) {
	a := lex.Lex("a")
	wantFill(t, nil, nil)
	wantFill(t, nil, [][]lex.Token{a})
	wantFill(t, []lex.Token{}, [][]lex.Token{})
	wantFill(t, lex.Lex(`b {\c}`), nil, wordOf("b"), space, open, commandOf("c"), shut)
	wantFill(t, lex.Lex(`b {\c}`), [][]lex.Token{a, a}, wordOf("b"), space, open, commandOf("c"), shut)
	wantFill(t, lex.Lex("#1#2#1"), [][]lex.Token{nil, a}, wordOf("a"))
	wantFill(t, lex.Lex("#1#2#3"), [][]lex.Token{a, {}, a}, wordOf("a"), wordOf("a"))
	wantFill(t, lex.Lex("x#1y"), [][]lex.Token{{}}, wordOf("x"), wordOf("y"))
	wantFill(t, lex.Lex("x#1y"), nil, wordOf("x"), wordOf("y"))
	// What is filled in is not filled again.
	wantFill(t, lex.Lex("#1#2"), [][]lex.Token{lex.Lex("#2#1"), lex.Lex("#9#1")}, paramOf("2"), paramOf("1"), paramOf("9"), paramOf("1"))
	// A group within a body is filled as well; a Word that looks like a Param is none.
	wantFill(t, lex.Lex(`{{#1}}\#1`), [][]lex.Token{a}, open, open, wordOf("a"), shut, shut, wordOf("#1"))
	// Tokens that stand next to each other then are left as they are.
	wantFill(t, lex.Lex("b #1#1"), [][]lex.Token{{space, par, wordOf("b")}}, wordOf("b"), space, space, par, wordOf("b"), space, par, wordOf("b"))
	wantFill(t, lex.Lex("#1"), [][]lex.Token{{junk, {}, {Kind: lex.Open, S: "x"}}}, junk, lex.Token{}, lex.Token{Kind: lex.Open, S: "x"})
	for _, kind := range append(slices.Clone(strange), lex.Word, lex.Space, lex.Par, lex.Command, lex.Open, lex.Close) {
		x := lex.Token{Kind: kind, S: "1"}
		wantFill(t, []lex.Token{x}, [][]lex.Token{a}, x)
	}
	// A Param of no digit names none of args.
	for _, s := range []string{"", "0", "10", "11", "01", "1 ", "+1", "-1", "a", ":", "/", "\xff", "\u0661"} {
		wantFill(t, []lex.Token{open, paramOf(s), shut}, slices.Repeat([][]lex.Token{a}, 300), open, shut)
	}
}

// P7.2
func TestFlat(t *testing.T) {
	for _, c := range [][2]string{
		{"", ""}, {" ", ""}, {"\n\n", ""}, {"a", "a"}, {" a ", "a"}, {"\n\na\n\n", "a"}, {"a b", "a b"}, {"a  b", "a b"}, {"a\n\nb", "a b"},
		{"a{b}c", "abc"}, {"{a} {b}", "a b"}, {"a { } b", "a b"}, {"a#1b", "ab"}, {"a #1 b", "a b"}, {`a\x b`, "a b"}, {`a\x{b}`, "ab"},
		{`\x`, ""}, {`\x{ }#1`, ""}, {`a \x b`, "a b"}, {`a\ b`, "a b"}, {`a\ \ \ b`, "a b"}, {`\ a\ `, "a"}, {`\ `, ""}, {`\ \ `, ""},
		{`a \ b`, "a b"}, {`a\  b`, "a b"}, {`\ {}\ a{\ }\ b\ \x\ `, "a b"}, {"a%b\nc", "a c"}, {`\{\}\%\#1\\`, `{}%#1\`}, {"}a{", "a"},
		{"  a\\x{b  c}\n\n\\ d #1 ", "ab c d"},
	} {
		wantFlat(t, c[1], lex.Lex(c[0])...)
	}
	wantFlat(t, "")
	wantFlat(t, "", []lex.Token{}...)
	for _, gap := range [][]lex.Token{{space}, {par}, {space, space}, {space, par}, {par, space}, {par, par, par}, {space, wordOf(""), par}, {wordOf("  ")}, {wordOf(" "), space, wordOf(" ")}, {space, commandOf("x"), open, paramOf("1"), shut, par}} {
		wantFlat(t, "", gap...)
		wantFlat(t, "a b", slices.Concat(gap, []lex.Token{wordOf("a")}, gap, []lex.Token{wordOf("b")}, gap)...)
		wantFlat(t, "a b c", slices.Concat([]lex.Token{wordOf("a")}, gap, []lex.Token{wordOf("b ")}, gap, []lex.Token{wordOf(" c")})...)
	}
}

// P7.2: of bytes, 32 alone is a blank here; of tokens, no other ones count, whatever their S is.
func TestFlatBytes(t *testing.T) {
	for c := range 256 {
		b := string([]byte{byte(c)})
		want := b + b + "x" + b + b
		if b == " " {
			want = "x"
		}
		wantFlat(t, want, wordOf(b+b+"x"+b+b))
	}
	wantFlat(t, "\t \n", wordOf("\t"), space, wordOf("\n"))
	wantFlat(t, "\u00a0 \u00e9", wordOf(" \u00a0 "), wordOf(" \u00e9 "))
	for _, kind := range append(slices.Clone(strange), lex.Command, lex.Open, lex.Close, lex.Param) {
		x := lex.Token{Kind: kind, S: "x 1"}
		wantFlat(t, "", x)
		wantFlat(t, "ab c", wordOf("a"), x, wordOf("b"), x, space, x, par, x, wordOf("c"), x)
		wantFlat(t, "a b", wordOf("a "), x, wordOf(" b"))
	}
	for _, kind := range []int{lex.Space, lex.Par} {
		wantFlat(t, "a b", wordOf("a"), lex.Token{Kind: kind, S: "x"}, wordOf("b"))
	}
}

// P7.2
func TestWord(t *testing.T) {
	for _, s := range []string{"a", "a b", " ", "", "{}", "\xff", "\\", strings.Repeat("a", 5000)} {
		wantWord(t, s, true, wordOf(s))
		wantWord(t, "", false, wordOf(s), wordOf(s))
		wantWord(t, "", false, wordOf(s), space)
		wantWord(t, "", false, space, wordOf(s))
		wantWord(t, "", false, open, wordOf(s), shut)
	}
	wantWord(t, "", false)
	wantWord(t, "", false, []lex.Token{}...)
	for _, kind := range append(slices.Clone(strange), lex.Space, lex.Par, lex.Command, lex.Open, lex.Close, lex.Param) {
		wantWord(t, "", false, lex.Token{Kind: kind})
		wantWord(t, "", false, lex.Token{Kind: kind, S: "a"})
		wantWord(t, "", false, wordOf("a"), lex.Token{Kind: kind})
	}
}

// P7.1, P7.2, P7.4: all short lists.
func TestShortLists(t *testing.T) {
	lists([]lex.Token{open, shut, space}, 8, func(l []lex.Token) { checkTokens(t, l, 3) })
	lists([]lex.Token{open, shut, space, par, wordOf("a"), paramOf("1")}, 5, func(l []lex.Token) { checkTokens(t, l, 2) })
	all := []lex.Token{open, shut, space, par, wordOf(""), wordOf(" "), wordOf("a "), wordOf(" b"), wordOf("c  d"), commandOf("x"), paramOf("1"), paramOf("9"), {}, {Kind: lex.Kinds}}
	lists(all, 4, func(l []lex.Token) { checkTokens(t, l, 1) })
}

// P7.1, P7.2, P7.4: many long lists.
func TestManyLists(t *testing.T) {
	r := rand.New(rand.NewSource(7))
	for range 4000 {
		l := randomTokens(r, r.Intn(30))
		checkTokens(t, l, 10)
		// What Args tells is looked at all the more where there are groups for it.
		var groups []lex.Token
		for range 1 + r.Intn(9) {
			groups = slices.Concat(groups, []lex.Token{space}[:r.Intn(2)], []lex.Token{open}, randomTokens(r, r.Intn(4)), []lex.Token{shut})
		}
		checkTokens(t, groups, 10)
		var args [][]lex.Token
		for range r.Intn(12) {
			args = append(args, randomTokens(r, r.Intn(4)))
		}
		if got, want := Fill(l, args), modelFill(l, args); !slices.Equal(got, want) {
			t.Fatalf("Fill(%v, %v) = %v; want %v", l, args, got, want)
		}
	}
	for range 10 {
		checkTokens(t, randomTokens(r, 300), 2)
	}
}

// R1: what a list costs grows no faster than the list does.
func TestLongLists(t *testing.T) {
	const n = 1 << 20
	if s := Flat(slices.Repeat([]lex.Token{wordOf("a "), space, par}, n)); s != strings.Repeat("a ", n)[:2*n-1] {
		t.Errorf("a text of %d bytes", len(s))
	}
	if l := Fill(slices.Repeat([]lex.Token{paramOf("1"), space}, n), [][]lex.Token{lex.Lex("a{b}")}); len(l) != 5*n {
		t.Errorf("%d tokens", len(l))
	}
	l := slices.Concat(slices.Repeat([]lex.Token{space}, n), []lex.Token{open}, slices.Repeat([]lex.Token{wordOf("a")}, n), []lex.Token{shut})
	if args, to, e := Args(l, 0, 1); e != api.OK || to != len(l) || len(args[0]) != n {
		t.Errorf("%d args, %d, %d", len(args), to, e)
	}
}

// R4: tokens that are handed in stay as they were, with the room behind them; answers are new memory, in which nothing is seen of what happens elsewhere.
func TestArgsMemory(t *testing.T) {
	for _, s := range []string{"{a}{b c}{}{{d}}", "{a} ", " {}", "{x}y{", "", "a"} {
		for n := range 5 {
			l := roomy(lex.Lex(s))
			was := slices.Clone(l[:cap(l)])
			one, _, _ := Args(l, 0, n)
			two, _, _ := Args(l, 0, n)
			Group(l, 0)
			Flat(l)
			Word(l)
			want, _, _ := modelArgs(l, 0, n)
			for i := range one {
				spoil(one[i])
				if !sameLists(one[i+1:], want[i+1:]) {
					t.Errorf("%q, %d: args hang together: %v", s, n, one)
				}
			}
			clear(one[:cap(one)])
			if !slices.Equal(l[:cap(l)], was) {
				t.Errorf("%q, %d: handed in %v; now %v", s, n, was, l[:cap(l)])
			}
			spoil(l)
			if !sameLists(two, want) {
				t.Errorf("%q, %d: the answer was %v; now %v", s, n, want, two)
			}
		}
	}
}

// R4
func TestFillMemory(t *testing.T) {
	for _, s := range []string{"#1", "x", "x#1", "#1x", "#1#2#1", "#3", "", "#2{#1}\n\n#2"} {
		body := roomy(lex.Lex(s))
		args := [][]lex.Token{roomy(lex.Lex("a b")), roomy(lex.Lex("{c}")), roomy(nil), roomy(lex.Lex("d"))}
		handed := args[:3]
		was := []lex.Token{}
		for _, l := range append([][]lex.Token{body}, args...) {
			was = append(was, l[:cap(l)]...)
		}
		one, two := Fill(body, handed), Fill(body, handed)
		want := modelFill(body, handed)
		spoil(one)
		now := []lex.Token{}
		for _, l := range append([][]lex.Token{body}, args...) {
			now = append(now, l[:cap(l)]...)
		}
		if !slices.Equal(now, was) || len(args) != 4 {
			t.Errorf("%q: handed in %v; now %v", s, was, now)
		}
		for _, l := range append(args, body) {
			spoil(l)
		}
		clear(args)
		if !slices.Equal(two, want) {
			t.Errorf("%q: the answer was %v; now %v", s, want, two)
		}
	}
}

// macrosOf makes macros of "name=body" words, in the order in which they stand, each with as many Params as its name has letters.
func macrosOf(words string) []Macro {
	var l []Macro
	for _, w := range strings.Fields(words) {
		name, body, _ := strings.Cut(w, "=")
		l = append(l, Macro{Name: name, Params: len(name) % 10, Body: lex.Lex(body)})
	}
	return l
}

// many are n macros.
func many(n int) []Macro {
	var l []Macro
	for i := range n {
		l = append(l, Macro{Name: "m" + string(rune('a'+i/26)) + string(rune('a'+i%26)), Params: i % 10, Body: lex.Lex(strconv.Itoa(i))})
	}
	return l
}

func sameMacro(a, b Macro) bool {
	return a.Name == b.Name && a.Params == b.Params && slices.Equal(a.Body, b.Body)
}

func sameMacros(a, b []Macro) bool {
	return slices.EqualFunc(a, b, sameMacro)
}

func wantPut(t *testing.T, l []Macro, m Macro, want []Macro) {
	t.Helper()
	if got, e := Put(l, m); e != api.OK || !sameMacros(got, want) {
		t.Errorf("Put(%v, %v) = %v, %d; want %v", l, m, got, e, want)
	}
}

func wantNoPut(t *testing.T, l []Macro, m Macro, e api.Errno) {
	t.Helper()
	if got, is := Put(l, m); is != e || len(got) != 0 {
		t.Errorf("Put of %v into %d macros = %v, %d; want the error %d alone", m, len(l), got, is, e)
	}
}

// P7.3
func TestPut(t *testing.T) {
	for _, c := range [][3]string{
		{"", "a=1", "a=1"}, {"b", "a=1", "a=1 b"}, {"a=1", "b", "a=1 b"}, {"a c", "b=x", "a b=x c"},
		{"a=1", "a=2", "a=2"}, {"a=1", "a=1", "a=1"}, {"a=1", "a", "a"}, {"a", "a=1", "a=1"},
		{"a=1 b=2 c=3", "a=9", "a=9 b=2 c=3"}, {"a=1 b=2 c=3", "b=9", "a=1 b=9 c=3"}, {"a=1 b=2 c=3", "c=9", "a=1 b=2 c=9"},
		{"a aaa", "aa=1", "a aa=1 aaa"}, {"aa ab", "a=1", "a=1 aa ab"}, {"a ab", "aZ=1", "a aZ=1 ab"}, {"aa", "b", "aa b"}, {"b", "ab", "ab b"},
		{"a b", "A=1", "A=1 a b"}, {"A a", "Z=1", "A Z=1 a"}, {"A Z", "a=1", "A Z a=1"}, {"A a", "A=1", "A=1 a"}, {"A a", "a=1", "A a=1"},
		{"a", "b=x{#1}", "a b=x{#1}"},
	} {
		wantPut(t, macrosOf(c[0]), macrosOf(c[1])[0], macrosOf(c[2]))
	}
	// All of a macro is put in another one's place.
	wantPut(t, []Macro{{Name: "a", Params: 3, Body: lex.Lex("x y")}}, Macro{Name: "a"}, []Macro{{Name: "a"}})
	wantPut(t, []Macro{{Name: "a"}}, Macro{Name: "a", Params: 3, Body: lex.Lex("x y")}, []Macro{{Name: "a", Params: 3, Body: lex.Lex("x y")}})
	wantPut(t, []Macro{}, Macro{Name: "a", Body: []lex.Token{}}, []Macro{{Name: "a"}})
	// A body may be of any tokens, and may ask for more Params than there are.
	body := []lex.Token{shut, open, paramOf("9"), {}, junk, wordOf("")}
	wantPut(t, nil, Macro{Name: "a", Body: body}, []Macro{{Name: "a", Body: body}})
}

// P7.3
func TestPutNames(t *testing.T) {
	long := strings.Repeat("n", 20)
	for c := range 256 {
		b := string([]byte{byte(c)})
		good := b >= "a" && b <= "z" || b >= "A" && b <= "Z"
		for _, name := range []string{b, b + "a", "a" + b, "a" + b + "Z", long[1:] + b, b + long[1:]} {
			m := Macro{Name: name, Params: 9}
			if good {
				wantPut(t, nil, m, []Macro{m})
			} else {
				wantNoPut(t, nil, m, api.ErrName)
			}
		}
	}
	for n := range 300 {
		m := Macro{Name: strings.Repeat("z", n)}
		if n >= 1 && n <= 20 {
			wantPut(t, nil, m, []Macro{m})
		} else {
			wantNoPut(t, nil, m, api.ErrName)
		}
	}
	for _, name := range []string{"a1", "1", "a b", " ", "a-", "é", "aé", "\u0430", "a\x00", "\\a", "{a}", strings.Repeat("é", 10), strings.Repeat("a", 1<<16)} {
		wantNoPut(t, macrosOf("a b"), Macro{Name: name}, api.ErrName)
	}
}

// P7.3, R2: which error is told, where several are.
func TestPutErrors(t *testing.T) {
	for n := range 10 {
		m := Macro{Name: "a", Params: n}
		wantPut(t, nil, m, []Macro{m})
	}
	for _, n := range []int{-1, 10, 11, 256, math.MinInt, math.MaxInt} {
		wantNoPut(t, nil, Macro{Name: "a", Params: n}, api.ErrArg)
		wantNoPut(t, macrosOf("a"), Macro{Name: "a", Params: n}, api.ErrArg)
		wantNoPut(t, many(40), Macro{Name: "x", Params: n}, api.ErrArg)
		wantNoPut(t, many(40), Macro{Name: "maa", Params: n}, api.ErrArg)
		for _, name := range []string{"", "a1", strings.Repeat("n", 21)} {
			wantNoPut(t, nil, Macro{Name: name, Params: n}, api.ErrName)
			wantNoPut(t, many(40), Macro{Name: name, Params: n}, api.ErrName)
		}
	}
	wantNoPut(t, many(40), Macro{}, api.ErrName)
	wantNoPut(t, many(40), Macro{Name: "x"}, api.ErrBig)
}

// P7.3: 40 macros take one in the place of another one, and none beside them.
func TestPutIntoFull(t *testing.T) {
	all := many(40)
	for i, m := range all {
		m.Params, m.Body = 9, lex.Lex("{new}")
		want := slices.Clone(all)
		want[i] = m
		wantPut(t, all, m, want)
		wantNoPut(t, all, Macro{Name: m.Name + "x"}, api.ErrBig)
		wantPut(t, slices.Delete(slices.Clone(all), i, i+1), m, want)
	}
	for _, name := range []string{"A", "z", "m", strings.Repeat("Z", 20)} {
		wantNoPut(t, all, Macro{Name: name}, api.ErrBig)
	}
}

func wantGet(t *testing.T, l []Macro, name string, want Macro, yes bool) {
	t.Helper()
	if m, has := Get(l, name); has != yes || !sameMacro(m, want) {
		t.Errorf("Get(%v, %q) = %v, %t", l, name, m, has)
	}
}

func wantDrop(t *testing.T, l []Macro, name string, want []Macro) {
	t.Helper()
	if got := Drop(l, name); !sameMacros(got, want) {
		t.Errorf("Drop(%v, %q) = %v; want %v", l, name, got, want)
	}
}

// P7.3
func TestGetAndDrop(t *testing.T) {
	l := macrosOf(`A=1 Ab=2 Z a={#1} aa=3 aab=4 ab=5 b`)
	for i, m := range l {
		wantGet(t, l, m.Name, m, true)
		wantDrop(t, l, m.Name, slices.Delete(slices.Clone(l), i, i+1))
		wantGet(t, Drop(l, m.Name), m.Name, Macro{}, false)
	}
	for _, name := range []string{"", "AB", "AA", "Abb", "B", "aA", "aaa", "aabb", "ba", "c", "z", "a1", " a", "a ", "\xff", "\x00", strings.Repeat("a", 30)} {
		for _, m := range [][]Macro{l, nil, {}, macrosOf("a=1")} {
			wantGet(t, m, name, Macro{}, false)
			wantDrop(t, m, name, m)
		}
	}
	wantDrop(t, macrosOf("a=1"), "a", nil)
	wantDrop(t, macrosOf("a=1 b=2"), "a", macrosOf("b=2"))
	wantDrop(t, macrosOf("a=1 b=2"), "b", macrosOf("a=1"))
	for n := range 41 {
		for i, m := range many(41) {
			if i < n {
				wantGet(t, many(n), m.Name, m, true)
				wantDrop(t, many(n), m.Name, slices.Delete(many(n), i, i+1))
			} else {
				wantGet(t, many(n), m.Name, Macro{}, false)
				wantDrop(t, many(n), m.Name, many(n))
			}
		}
	}
}

// P7.3: many calls, one behind the other, beside a map that takes the same ones.
func TestManyMacros(t *testing.T) {
	r := rand.New(rand.NewSource(73))
	letters := "abAB"
	for range 200 {
		var l []Macro
		held := map[string]Macro{}
		for range 300 {
			name := ""
			for range r.Intn(4) {
				name += string(letters[r.Intn(4)])
			}
			if r.Intn(4) == 0 {
				l = Drop(l, name)
				delete(held, name)
			}
			m := Macro{Name: name, Params: r.Intn(12) - 1, Body: randomTokens(r, r.Intn(3))}
			want := api.OK
			if _, has := held[name]; name == "" {
				want = api.ErrName
			} else if m.Params < 0 || m.Params > 9 {
				want = api.ErrArg
			} else if !has && len(held) == 40 {
				want = api.ErrBig
			}
			more, e := Put(l, m)
			if e != want {
				t.Fatalf("Put of %v into %d macros: %d; want %d", m, len(l), e, want)
			}
			if e == api.OK {
				l, held[name] = more, m
			}
			var all []Macro
			for _, name := range slices.Sorted(maps.Keys(held)) {
				all = append(all, held[name])
			}
			if !sameMacros(l, all) {
				t.Fatalf("macros %v; want %v", l, all)
			}
		}
	}
}

// roomyMacros have room behind the list, and behind each body.
func roomyMacros(words string) []Macro {
	l := macrosOf(words)
	for i := range l {
		l[i].Body = roomy(l[i].Body)
	}
	return append(l, Macro{Name: "room", Params: -1, Body: roomy(lex.Lex("r"))}, Macro{})[:len(l)]
}

// whole is a copy of macros that shares nothing, with the room behind each list as a part of it.
func whole(l []Macro) []Macro {
	l = slices.Clone(l[:cap(l)])
	for i, m := range l {
		l[i].Body = slices.Clone(m.Body[:cap(m.Body)])
	}
	return l
}

func spoilMacros(l []Macro) {
	l = l[:cap(l)]
	for i := range l {
		spoil(l[i].Body)
		l[i] = Macro{Name: "spoilt", Params: -2}
	}
}

// checkApart holds R4 of a call that answers macros of macros; change is what happens to what else it was handed.
func checkApart(t *testing.T, words string, call func(l []Macro) []Macro, change func()) {
	t.Helper()
	l := roomyMacros(words)
	was := whole(l)
	one, two := call(l), call(l)
	want := macrosOfAnswer(two)
	for i := range one {
		spoil(one[i].Body)
		if !sameMacros(one[i+1:], want[i+1:]) {
			t.Errorf("%q: bodies of one answer hang together: %v; want %v", words, one, want)
		}
	}
	spoilMacros(one)
	if !sameMacros(whole(l), was) {
		t.Errorf("%q: handed in %v; now %v", words, was, whole(l))
	}
	if !sameMacros(two, want) {
		t.Errorf("%q: two answers hang together: %v; want %v", words, two, want)
	}
	spoilMacros(l)
	change()
	if !sameMacros(two, want) {
		t.Errorf("%q: the answer was %v; now %v", words, want, two)
	}
}

// macrosOfAnswer is a copy of an answer, without the room behind its lists.
func macrosOfAnswer(l []Macro) []Macro {
	l = slices.Clone(l)
	for i := range l {
		l[i].Body = slices.Clone(l[i].Body)
	}
	return l
}

// R4
func TestMacrosMemory(t *testing.T) {
	for _, words := range []string{"", "b", "b=x", "a=1 c={#1}", "a=1 b={2} c=3", "a b c", "b=x c", "a b=y"} {
		for _, name := range []string{"a", "b", "c", "x", "A", ""} {
			body := roomy(lex.Lex("x#1{y}"))
			was := slices.Clone(body[:cap(body)])
			checkApart(t, words, func(l []Macro) []Macro {
				got, _ := Put(l, Macro{Name: name, Params: 1, Body: body})
				if !slices.Equal(body[:cap(body)], was) {
					t.Errorf("Put changed a body: %v; now %v", was, body[:cap(body)])
				}
				return got
			}, func() { spoil(body) })
			checkApart(t, words, func(l []Macro) []Macro { return Drop(l, name) }, func() {})
			checkApart(t, words, func(l []Macro) []Macro {
				if m, has := Get(l, name); has {
					return []Macro{m}
				}
				return nil
			}, func() {})
		}
	}
}

// R4: nor is what was answered changed, where it is handed in again.
func TestPutOfItsOwnAnswers(t *testing.T) {
	one, _ := Put(nil, Macro{Name: "b", Body: lex.Lex("x")})
	two, _ := Put(one, Macro{Name: "a", Body: one[0].Body})
	three, _ := Put(one, Macro{Name: "c", Body: one[0].Body})
	spoil(two[0].Body)
	spoil(three[1].Body)
	if !sameMacros(one, macrosWith("b")) || !sameMacros(two[1:], macrosWith("b")) || !sameMacros(three[:1], macrosWith("b")) {
		t.Errorf("%v, %v, %v", one, two, three)
	}
}

// macrosWith is one macro of a name, whose body is x.
func macrosWith(name string) []Macro {
	return []Macro{{Name: name, Body: lex.Lex("x")}}
}
