package expand_test

import (
	"math/rand"
	"regexp"
	"slices"
	"strconv"
	"strings"
	"testing"

	"stet/api"
	"stet/expand"
	"stet/lex"
)

var (
	macroName = regexp.MustCompile(`^[a-zA-Z]{1,20}$`)
	fileName  = regexp.MustCompile(`^[a-z0-9.-]{1,24}$`)
)

// model is a second telling of the document's words: it looks at all groups of a command first, and holds what is to come in a list that is made anew with each step.
type model struct {
	texts  map[string]string
	macros map[string]modelMacro
	come   []lex.Token
	fuel   int
	most   int
	ends   bool
	out    expand.Out
}

type modelMacro struct {
	params int
	body   []lex.Token
}

func modelExpand(l []api.File, main string, fuel, most int) expand.Out {
	m := &model{texts: map[string]string{}, macros: map[string]modelMacro{}, fuel: fuel, most: most}
	for _, f := range l {
		m.texts[f.Name] = f.Text
	}
	m.ask(main)
	if text, is := m.texts[main]; is {
		m.come = lex.Lex(text)
	} else {
		m.note(api.ErrNone, main)
	}
	for len(m.come) > 0 && !m.ends {
		m.step()
	}
	m.out.Used = fuel - m.fuel
	return m.out
}

func (m *model) note(e api.Errno, of string) {
	m.out.Notes = append(m.out.Notes, api.Note{Err: e, S: of})
}

func (m *model) ask(name string) {
	for _, r := range m.out.Reads {
		if r == name {
			return
		}
	}
	m.out.Reads = append(m.out.Reads, name)
}

func (m *model) step() {
	t := m.come[0]
	m.come = m.come[1:]
	needs, own := map[string]int{"def": 3, "undef": 1, "ifdef": 3, "include": 1}[t.S]
	mac, is := m.macros[t.S]
	switch {
	case t.Kind != lex.Command || !own && !is:
		m.put(t)
		return
	case !own:
		needs = mac.params
	}
	x, rest, ok := modelGroups(m.come, needs)
	if !ok || own && oneWord(x[0]) == "" || t.S == "def" && !strings.Contains("0 1 2 3 4 5 6 7 8 9", spaced(oneWord(x[1]))) {
		m.note(api.ErrMacro, t.S)
		return
	}
	m.come = rest
	switch {
	case !own:
		m.macro(t.S, mac, x)
	case t.S == "def":
		m.def(oneWord(x[0]), x)
	case t.S == "undef":
		delete(m.macros, oneWord(x[0]))
	case t.S == "ifdef":
		if _, is := m.macros[oneWord(x[0])]; is {
			m.come = slices.Concat(x[1], m.come)
		} else {
			m.come = slices.Concat(x[2], m.come)
		}
	default:
		m.include(oneWord(x[0]))
	}
}

func (m *model) put(t lex.Token) {
	if len(m.out.L) < m.most {
		m.out.L = append(m.out.L, t)
		return
	}
	m.note(api.ErrBig, "")
	m.ends = true
}

func (m *model) def(name string, x [][]lex.Token) {
	_, is := m.macros[name]
	switch {
	case !macroName.MatchString(name):
		m.note(api.ErrName, name)
	case !is && len(m.macros) == 40:
		m.note(api.ErrBig, name)
	default:
		n, _ := strconv.Atoi(oneWord(x[1]))
		m.macros[name] = modelMacro{n, x[2]}
	}
}

func (m *model) include(name string) {
	text, is := m.texts[name]
	switch {
	case !fileName.MatchString(name):
		m.note(api.ErrName, name)
	case len(m.out.Reads) == 32 && !slices.Contains(m.out.Reads, name):
		m.note(api.ErrBig, name)
	case m.fuel == 0:
		m.note(api.ErrFuel, name)
	default:
		m.fuel--
		m.ask(name)
		if !is {
			m.note(api.ErrNone, name)
			return
		}
		m.enter(name, lex.Lex(text))
	}
}

func (m *model) macro(name string, mac modelMacro, x [][]lex.Token) {
	if m.fuel == 0 {
		m.note(api.ErrFuel, name)
		return
	}
	m.fuel--
	var l []lex.Token
	for _, t := range mac.body {
		if t.Kind != lex.Param {
			l = append(l, t)
			continue
		}
		for i, arg := range x {
			if t.S == strconv.Itoa(i+1) {
				l = append(l, arg...)
			}
		}
	}
	m.enter(name, l)
}

func (m *model) enter(name string, l []lex.Token) {
	all := slices.Concat(l, m.come)
	if len(all) > m.most {
		m.note(api.ErrBig, name)
		return
	}
	m.come = all
}

// modelGroups are what stands within n groups, and what stands behind them.
func modelGroups(l []lex.Token, n int) ([][]lex.Token, []lex.Token, bool) {
	if n == 0 {
		return nil, l, true
	}
	for len(l) > 0 && l[0].Kind == lex.Space {
		l = l[1:]
	}
	deep := 0
	for i, t := range l {
		switch t.Kind {
		case lex.Open:
			deep++
		case lex.Close:
			deep--
		}
		if deep <= 0 {
			more, rest, ok := modelGroups(l[i+1:], n-1)
			return append([][]lex.Token{l[min(1, i):i]}, more...), rest, ok && i > 0 && deep == 0
		}
	}
	return nil, nil, false
}

// oneWord is the Word that tokens are, or nothing; no Word is that.
func oneWord(l []lex.Token) string {
	if len(l) == 1 && l[0].Kind == lex.Word {
		return l[0].S
	}
	return ""
}

// spaced is a text of one byte, or one that stands in no list.
func spaced(s string) string {
	if len(s) != 1 || s == " " {
		return "none"
	}
	return s
}

// checkModel holds an expansion against the model, and against P8.2.
func checkModel(t *testing.T, l []api.File, main string, fuel, most int) expand.Out {
	t.Helper()
	o, is := expanded(t, l, main, fuel, most), modelExpand(l, main, fuel, most)
	if !sameOut(o, is) {
		t.Fatalf("%q, main %q, fuel %d, most %d:\n     %v\nwant %v", l, main, fuel, most, o, is)
	}
	if o.Used > fuel || o.Used < 0 || len(o.L) > most {
		t.Fatalf("%q, main %q: used %d of %d, %d tokens of %d", l, main, o.Used, fuel, len(o.L), most)
	}
	return o
}

// P8.1: all short documents of these pieces.
func TestModelShort(t *testing.T) {
	pieces := []string{`\def`, `\undef`, `\ifdef`, `\include`, `\x`, "{x}", "{1}", "{b}", "{", "}", " ", "\n\n", "a", `#1`, "{x#1}"}
	l := library(t, "")
	m := slices.IndexFunc(l, func(f api.File) bool { return f.Name == "m" })
	for _, ahead := range []string{"", `\def{x}{0}{b}`, `\def{x}{1}{<#1\x>}`} {
		for _, doc := range lists(pieces, 4) {
			l[m].Text = ahead + doc
			checkModel(t, l, "m", 2, 60)
		}
	}
}

// lists are all lists of n pieces, one behind the other.
func lists(pieces []string, n int) []string {
	if n == 0 {
		return []string{""}
	}
	var l []string
	for _, ahead := range lists(pieces, n-1) {
		for _, p := range pieces {
			l = append(l, ahead+p)
		}
	}
	return l
}

// P8.1: groups of each command and of macros with all numbers of Params: as many as are named, fewer, more, and what stands between them and within.
func TestModelGroups(t *testing.T) {
	groups := []string{"{x}", "{1}", "{b}", "{}", "{a b}", "{x }", "{{x}}", "{x{y}z}", `{\x}`, "{#1}", "{N}", `{\undef{x}}`, "{", "{{x}"}
	gaps := []string{"", " ", "%r\n", "\n\n", "a", "}", `\y`, "#1", " %r\n\n\n", "\t"}
	r := rand.New(rand.NewSource(81))
	for _, command := range []string{`\def`, `\undef`, `\ifdef`, `\include`, `\x`} {
		for needs := range 11 {
			ahead := `\def{x}{` + strconv.Itoa(needs) + `}{<#1#2#3#4#5#6#7#8#9>}`
			if needs == 10 {
				ahead = ""
			}
			for have := range 12 {
				for range 60 {
					doc := ahead + command
					for range have {
						// Mostly nothing stands between, and half of the groups hold one Word, so that enough of them are right.
						doc += gaps[r.Intn(len(gaps))*r.Intn(2)*r.Intn(2)] + groups[r.Intn(len(groups))*r.Intn(2)]
					}
					checkModel(t, library(t, doc+gaps[r.Intn(len(gaps))]+"e"), "m", 1+r.Intn(9), 100+r.Intn(2)*900)
				}
			}
		}
	}
}

// oneOf is one of some texts.
func oneOf(r *rand.Rand, l ...string) string { return l[r.Intn(len(l))] }

// maker makes random documents: wild ones, in which much is wrong, and others, in which little is.
type maker struct {
	*rand.Rand
	wild bool
}

// either is one of some texts, or one of others in wild documents.
func (r maker) either(tame, wild []string) string {
	if r.wild && r.Intn(3) == 0 {
		return oneOf(r.Rand, wild...)
	}
	return oneOf(r.Rand, tame...)
}

// text is made of commands, groups and words, within which are others.
func (r maker) text(deep int) string {
	s := ""
	for range r.Intn(6) {
		s += r.piece(deep)
	}
	return s
}

func (r maker) group(s string) string {
	if r.wild && r.Intn(20) == 0 {
		return oneOf(r.Rand, "\n\n{"+s+"}", "{"+s, s+"}", s)
	}
	return oneOf(r.Rand, "", "", "", " ", "%\n") + "{" + s + "}"
}

func (r maker) name() string {
	return r.group(r.either([]string{"x", "y", "z"}, []string{"undef", "N-", "x y", "", `\x`, "#1"}))
}

func (r maker) piece(deep int) string {
	if deep == 0 {
		return r.either([]string{"a", "b ", " ", "\n\n", "#1", "#2", `\o`, `\x{}{}`, `\y{1}{2}`}, []string{"#3", `\x`, `\include{b}`, "{", "}"})
	}
	switch r.Intn(9) {
	case 0, 1:
		return `\def` + r.name() + r.group(r.either([]string{"0", "1", "2"}, []string{"3", "9", "10", "q", ""})) + r.group(r.text(deep-1))
	case 2:
		return `\undef` + r.name()
	case 3:
		return `\ifdef` + r.name() + r.group(r.text(deep-1)) + r.group(r.text(deep-1))
	case 4:
		return `\include` + r.group(r.either([]string{"m", "a", "b", "c"}, []string{"none", "gone", "B", "", "a b", "#1"}))
	case 5, 6:
		s := `\` + oneOf(r.Rand, "x", "y", "z")
		for range 2 {
			s += r.group(r.text(deep - 1))
		}
		return s
	case 7:
		return r.group(r.text(deep - 1))
	}
	return r.either([]string{"a", "b ", " ", "\n\n", "#1", "#2", `\o`}, []string{"{", "}", "%r\n", "def", `\ `})
}

// files are those of some names.
func (r maker) files(t *testing.T, names ...string) []api.File {
	t.Helper()
	var pairs []string
	for i, name := range names {
		pairs = append(pairs, name, r.text(max(1, 3-i)))
	}
	return filesOf(t, pairs...)
}

// P8.1, P8.2: long documents, among other files; every note must have come among them.
func TestModelLong(t *testing.T) {
	r := rand.New(rand.NewSource(82))
	seen := map[string]int{}
	for i := range 15000 {
		l := maker{r, i%2 == 0}.files(t, "m", "a", "b", "c")
		fuel, most := r.Intn(12), r.Intn(60)
		if r.Intn(2) == 0 {
			fuel, most = 30, 400
		}
		o := checkModel(t, l, oneOf(r, "m", "m", "m", "m", "a", "none"), fuel, most)
		for _, n := range o.Notes {
			seen[strconv.Itoa(int(n.Err))+" "+n.S]++
		}
		if len(o.Notes) == 0 && o.Used > 2 {
			seen["right"]++
		}
	}
	for _, n := range []string{
		"right", "2 N-", "2 B", "3 ", "3 x", "3 y", "3 a", "3 b", "3 m", "4 none", "4 gone", "9 x", "9 y", "9 a", "9 b", "9 m", "9 none",
		"10 def", "10 undef", "10 ifdef", "10 include", "10 x", "10 y",
	} {
		if seen[n] < 50 {
			t.Errorf("of %q there are but %d: %v", n, seen[n], seen)
		}
	}
}

// P8.1: any bytes.
func TestModelBytes(t *testing.T) {
	r := rand.New(rand.NewSource(83))
	bytes := "\\{}#%1x \nadefincludeundefif\x00\xff"
	for range 20000 {
		var texts []string
		for range 2 {
			var b strings.Builder
			for range r.Intn(80) {
				if r.Intn(6) == 0 {
					b.WriteString(oneOf(r, `\def{`, `\include{a}`, `\ifdef{`, `\undef{`, `}{`, `\x`, `{0}{`))
				}
				b.WriteByte(bytes[r.Intn(len(bytes))])
			}
			texts = append(texts, b.String())
		}
		checkModel(t, filesOf(t, "m", texts[0], "a", texts[1]), "m", r.Intn(9), r.Intn(90))
	}
}

// P8.1: many macros and many files, with all fuel.
func TestModelMany(t *testing.T) {
	r := rand.New(rand.NewSource(84))
	full, files := 0, 0
	for range 300 {
		doc := ""
		for range 240 {
			name := nth(r.Intn(90))
			doc += oneOf(r, `\def{`+name+`}{0}{`+name+`}`, `\def{`+name+`}{1}{#1}`, `\undef{`+name+`}`, `\`+name+"{e}", `\include{f`+strconv.Itoa(r.Intn(60))+"}")
		}
		o := checkModel(t, filesOf(t, "m", doc, "f0", "F", "f1", `\include{f2}`, "f2", `\naa{f}`), "m", 1000, 20000)
		for _, n := range o.Notes {
			if n.Err == api.ErrBig && strings.HasPrefix(n.S, "n") {
				full++
			} else if n.Err == api.ErrBig {
				files++
			}
		}
	}
	if full < 100 || files < 100 {
		t.Errorf("too many macros %d times, too many files %d times", full, files)
	}
}

// P8.2: files that were not asked for make no difference, nor that there are any.
func TestUnasked(t *testing.T) {
	r := rand.New(rand.NewSource(85))
	for range 5000 {
		make := maker{r, r.Intn(2) == 0}
		l := make.files(t, "m", "a", "b", "c", "gone")
		main := oneOf(r, "m", "m", "a", "none")
		o := expanded(t, l, main, 9, 200)
		var asked, others []api.File
		for _, f := range l {
			if slices.Contains(o.Reads, f.Name) {
				asked, others = append(asked, f), append(others, f)
			} else {
				others = append(others, api.File{Name: f.Name, Text: `\def{x}{0}{other}\include{m}`})
			}
		}
		for i := range 27 {
			others = append(others, api.File{Name: "z" + string(rune('a'+i)), Text: make.text(1)})
		}
		if a := expanded(t, asked, main, 9, 200); !sameOut(a, o) {
			t.Fatalf("%q: %v; without the others %v", l, o, a)
		}
		if b := expanded(t, others, main, 9, 200); !sameOut(b, o) {
			t.Fatalf("%q: %v; with others %v", l, o, b)
		}
	}
}

// R5: what is answered hangs on nothing but what is handed in.
func TestSameAnswers(t *testing.T) {
	r := rand.New(rand.NewSource(86))
	var all [][]api.File
	var outs []expand.Out
	for range 500 {
		l := maker{r, false}.files(t, "m", "a", "b")
		all, outs = append(all, l), append(outs, expanded(t, l, "m", 9, 99))
	}
	for range 5 {
		for _, i := range r.Perm(len(all)) {
			if o := expanded(t, all[i], "m", 9, 99); !sameOut(o, outs[i]) {
				t.Fatalf("%q: %v, and then %v", all[i], outs[i], o)
			}
		}
	}
}
