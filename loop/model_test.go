package loop

import (
	"math/rand"
	"regexp"
	"slices"
	"strings"
	"testing"

	"bobstay/api"
	"bobstay/expand"
	"bobstay/line"
	"bobstay/vars"
)

var (
	aDirective = regexp.MustCompile(`^(?s)\.[ \t]*([a-z]+)(?:[ \t]+(.*)|([(!"].*)|)$`)
	aForText   = regexp.MustCompile(`^(?s)((?:[A-Za-z0-9_]+[ \t]+)+?)in(?:[ \t]+(.*)|)$`)
)

// modelWord is a directive's word and text.
func modelWord(l line.Line) (string, string) {
	found := aDirective.FindStringSubmatch(l.Text)
	if found == nil || l.Command {
		return "", ""
	}
	return found[1], found[2] + found[3]
}

// model reads blocks by calls within one another; a fault is a panic.
type model struct {
	left []line.Line
	open int
}

func (m *model) wrong(why api.Errno, at int) { panic(api.Fault{Why: why, At: at}) }

// next is the next line.
func (m *model) next() (l line.Line, word, text string) {
	l = m.left[0]
	m.left = m.left[1:]
	word, text = modelWord(l)
	return l, word, text
}

// blocks are those up to a word with which the block they lie in goes on, or ends:
// that word's line comes next.
func (m *model) blocks(in string, from int, stops ...string) []Node {
	var n []Node
	for len(m.left) > 0 {
		word, _ := modelWord(m.left[0])
		if slices.Contains(stops, word) {
			return n
		}
		n = append(n, m.block())
	}
	if in != "" {
		m.wrong(api.ErrEnd, from)
	}
	return n
}

// block is the next block.
func (m *model) block() Node {
	l, word, text := m.next()
	switch word {
	case "if", "ifdef", "ifndef", "ifmake", "ifnmake":
		m.opens(l)
		n := Node{Kind: 2, Line: l, Branches: m.branches(l.At, Branch{Word: word, Text: text, At: l.At})}
		m.open--
		return n
	case "for":
		n := m.loop(l, text)
		m.open--
		return n
	case "elif", "else", "endif", "endfor":
		m.wrong(api.ErrForm, l.At)
	}
	return Node{Kind: 1, Line: l}
}

// opens counts a block.
func (m *model) opens(l line.Line) {
	m.open++
	if m.open > 32 {
		m.wrong(api.ErrMany, l.At)
	}
}

// branches are a branch and those behind it.
func (m *model) branches(from int, b Branch) []Branch {
	stops := []string{"elif", "else", "endif"}
	if b.Word == "else" {
		stops = stops[2:]
	}
	b.Kids = m.blocks("if", from, stops...)
	l, word, text := m.next()
	if word != "elif" && text != "" {
		m.wrong(api.ErrForm, l.At)
	}
	if word == "endif" {
		return []Branch{b}
	}
	return append([]Branch{b}, m.branches(from, Branch{Word: word, Text: text, At: l.At})...)
}

// loop is a loop with its line.
func (m *model) loop(l line.Line, text string) Node {
	found := aForText.FindStringSubmatch(text)
	if found == nil {
		m.wrong(api.ErrForm, l.At)
	}
	n := Node{Kind: 3, Line: l, Names: strings.Fields(found[1]), List: found[2]}
	for i, name := range n.Names {
		if name == "in" || slices.Contains(n.Names[:i], name) {
			m.wrong(api.ErrForm, l.At)
		}
	}
	m.opens(l)
	n.Kids = m.blocks("for", l.At, "endfor")
	if end, _, behind := m.next(); behind != "" {
		m.wrong(api.ErrForm, end.At)
	}
	return n
}

// modelBuild are the blocks of lines.
func modelBuild(l []line.Line) (n []Node, f api.Fault) {
	m := &model{left: l}
	defer func() {
		if wrong := recover(); wrong != nil {
			n, f = nil, wrong.(api.Fault)
		}
	}()
	return m.blocks("", 0), api.Fault{}
}

// modelFlat are the lines of blocks that were built.
func modelFlat(n []Node) []line.Line {
	var l []line.Line
	for _, x := range n {
		if x.Kind != 2 {
			l = append(l, x.Line)
		}
		for _, b := range x.Branches {
			behind := ""
			if b.Text != "" {
				behind = " "
			}
			l = append(l, line.Line{Text: "." + b.Word + behind + b.Text, At: b.At})
			l = append(l, modelFlat(b.Kids)...)
		}
		l = append(l, modelFlat(x.Kids)...)
		if x.Kind != 1 {
			l = append(l, line.Line{Text: map[int]string{2: ".endif", 3: ".endfor"}[x.Kind], At: x.Line.At})
		}
	}
	return l
}

// modelBind is a text with a value in place of a name: what is in a use is bound
// by itself.
func modelBind(s, name, value string) string {
	made := ""
	for s != "" {
		n := expand.Use(s)
		switch {
		case n == 0:
			made, s = made+s[:1], s[1:]
			continue
		case s[:n] == "$$":
			made += "$$"
		case s[:n] == "${"+name+"}", s[:n] == "$("+name+")", len(name) == 1 && s[:n] == "$"+name:
			made += strings.ReplaceAll(value, "$", "$$")
		case n > 2:
			made += s[:2] + modelBind(s[2:n-1], name, value) + s[n-1:n]
		default:
			made += s[:n]
		}
		s = s[n:]
	}
	return made
}

// pick is one of some.
func pick(r *rand.Rand, of ...string) string { return of[r.Intn(len(of))] }

// anyText is a text of a directive, or of none.
func anyText(r *rand.Rand) string {
	return pick(r, "", "", "", " ", " x", " \tx y ", "(x)", "!x", `"x"`, ":", "x", " i in a", " i j in a  b ", " in", " i i in a", " i in", "(i in a)", " i-j in a")
}

// anyLine is a line, often one that opens, parts or closes.
func anyLine(r *rand.Rand, at int) line.Line {
	text := pick(r, "a", "$i.o: $i.c", "", ".", ".c.o:", " .if", ".include \"x\"")
	if r.Intn(3) > 0 {
		text = pick(r, ".", ".", ".", ". \t") +
			pick(r, "if", "ifdef", "ifndef", "ifmake", "ifnmake", "for", "for", "for", "elif", "else", "endif", "endif", "endfor", "endfor", "undef") + anyText(r)
	}
	return line.Line{Text: text, At: at, Command: r.Intn(12) == 0}
}

// wholeLines are lines that can be built, if they lie no more than so deep.
func wholeLines(r *rand.Rand, deep int) []line.Line {
	var l []line.Line
	for range r.Intn(4) {
		kind := r.Intn(3)
		switch {
		case kind == 1 && deep > 0:
			l = append(l, line.Line{Text: pick(r, ".if", ". ifdef ", ".ifmake\tx", ".if(x)", ".ifndef!x", ".ifnmake x  y ")})
			l = append(l, wholeLines(r, deep-1)...)
			for range r.Intn(3) {
				l = append(l, line.Line{Text: pick(r, ".elif", ".elif x ", ".\telif!x")})
				l = append(l, wholeLines(r, deep-1)...)
			}
			if r.Intn(2) == 0 {
				l = append(l, line.Line{Text: pick(r, ".else", ". else ")})
				l = append(l, wholeLines(r, deep-1)...)
			}
			l = append(l, line.Line{Text: pick(r, ".endif", ". endif\t")})
		case kind == 2 && deep > 0:
			l = append(l, line.Line{Text: pick(r, ".for i in", ". for i  j\tin a b ", ".for in1 in in in")})
			l = append(l, wholeLines(r, deep-1)...)
			l = append(l, line.Line{Text: pick(r, ".endfor", ".  endfor ")})
		default:
			l = append(l, line.Line{Text: pick(r, "a", "b: c", ".undef A", " .if", ".endif: x", ""), Command: r.Intn(2) == 0})
		}
	}
	return l
}

// plainOf are the lines that are plain.
func plainOf(l []line.Line) []line.Line {
	var plain []line.Line
	for _, x := range l {
		word, _ := modelWord(x)
		if !slices.Contains([]string{"if", "ifdef", "ifndef", "ifmake", "ifnmake", "for", "elif", "else", "endif", "endfor"}, word) {
			plain = append(plain, x)
		}
	}
	return plain
}

// leaves are the lines of the blocks of Kind 1.
func leaves(n []Node) []line.Line {
	var l []line.Line
	for _, x := range n {
		if x.Kind == 1 {
			l = append(l, x.Line)
		}
		for _, b := range x.Branches {
			l = append(l, leaves(b.Kids)...)
		}
		l = append(l, leaves(x.Kids)...)
	}
	return l
}

// checkAll holds lines to the model, and to what follows.
func checkAll(t *testing.T, l []line.Line) bool {
	t.Helper()
	for _, x := range l {
		word, text := Directive(x)
		if w, s := modelWord(x); w != word || s != text {
			t.Errorf("Directive(%s) = %q, %q, want %q, %q", toldLine(x, true), word, text, w, s)
		}
	}
	n, f := Build(l)
	want, why := modelBuild(l)
	if f != why || toldBlocks(n, true) != toldBlocks(want, true) {
		t.Fatalf("Build(%s) = %s, %v, want %s, %v", toldLines(l), toldBlocks(n, true), f, toldBlocks(want, true), why)
	}
	flat := Flat(n)
	if !slices.Equal(flat, modelFlat(n)) {
		t.Fatalf("Flat of %s = %s, want %s", toldLines(l), toldLines(flat), toldLines(modelFlat(n)))
	}
	if f != (api.Fault{}) {
		return false
	}
	if !slices.Equal(leaves(n), plainOf(l)) || !slices.Equal(plainOf(flat), plainOf(l)) {
		t.Fatalf("P12.6: the plain lines of %s are %s", toldLines(l), toldLines(leaves(n)))
	}
	again, f := Build(flat)
	if f != (api.Fault{}) || toldBlocks(again, false) != toldBlocks(n, false) {
		t.Fatalf("P12.4: Build(Flat(n)) of %s = %s, %v", toldLines(l), toldBlocks(again, true), f)
	}
	return true
}

// P12.1, P12.2, P12.4, P12.6: any lines at all.
func TestModel(t *testing.T) {
	r := rand.New(rand.NewSource(12))
	right := 0
	for range 60000 {
		var l []line.Line
		for i := range r.Intn(9) {
			l = append(l, anyLine(r, i+1))
		}
		if checkAll(t, l) {
			right++
		}
	}
	if right < 5000 {
		t.Errorf("%d lists alone were right", right)
	}
}

// P12.1, P12.2, P12.4, P12.6: lines that can be built, and such with one line gone.
func TestModelWhole(t *testing.T) {
	r := rand.New(rand.NewSource(13))
	for range 1000 {
		l := wholeLines(r, 5)
		for i := range l {
			l[i].At = 3*i + 2
		}
		if !checkAll(t, l) {
			t.Fatalf("lines that may be: %s", toldLines(l))
		}
		if len(l) > 0 {
			at := r.Intn(len(l))
			checkAll(t, slices.Delete(l, at, at+1))
		}
	}
}

// P12.4: flat lines that were flat already are the same, numbers but for those of
// lines that close too.
func TestFlatTwice(t *testing.T) {
	r := rand.New(rand.NewSource(14))
	for range 2000 {
		n, _ := Build(wholeLines(r, 5))
		once := Flat(n)
		built, f := Build(once)
		if twice := Flat(built); f != (api.Fault{}) || !slices.Equal(once, twice) {
			t.Fatalf("Flat again of %s = %s, %v", toldLines(once), toldLines(twice), f)
		}
	}
}

// P12.3: any texts, names and values at all.
func TestModelBind(t *testing.T) {
	r := rand.New(rand.NewSource(15))
	turned := 0
	for range 200000 {
		var text strings.Builder
		for range r.Intn(12) {
			text.WriteString(pick(r, "$", "$", "$", "{", "}", "(", ")", "i", "i", "j", ":", "${i}", "$(i)", "$i"))
		}
		name := pick(r, "i", "i", "i", "j", "ij", "", "$", "{", "}", "(", ")", "$i", "{i}", "i}")
		value := pick(r, "", "a", "$", "$$i", "${i}", "}", "a b")
		got := Bind([]line.Line{{Text: text.String(), At: 2}}, name, value)
		want := modelBind(text.String(), name, value)
		if len(got) != 1 || got[0] != (line.Line{Text: want, At: 2}) {
			t.Fatalf("Bind(%q, %q, %q) = %s, want %q", text.String(), name, value, toldLines(got), want)
		}
		if want != text.String() {
			turned++
		}
	}
	if turned < 20000 {
		t.Errorf("%d texts alone were turned", turned)
	}
}

// P12.3: what is bound means what it would, if the name had the value.
func TestBindMeans(t *testing.T) {
	r := rand.New(rand.NewSource(16))
	for range 20000 {
		var text strings.Builder
		for range r.Intn(6) {
			text.WriteString(pick(r, "a", " ", "$$", "$$i", "$i", "${i}", "$(i)", "$A", "${A$i}", "${$i}", "${A:S/x/$i/}", "$(N:U${i}$(i))", "${N:U${A:D$$i$i}}"))
		}
		value := pick(r, "x", "", "y$$z", "$", "$i", "${A}", "$A$$")
		v := vars.New()
		v.Put(vars.Global, "A", "x")
		v.Put(vars.Global, "Ax", "is")
		bound := Bind([]line.Line{{Text: text.String()}}, "i", value)[0].Text
		got, _, why := expand.Text(bound, v, 10000)
		v.Put(vars.Local, "i", expand.Quote(value))
		want, _, as := expand.Text(text.String(), v, 10000)
		if got != want || why != as {
			t.Fatalf("%q with i = %q: %q, which means %q, %v, want %q, %v", text.String(), value, bound, got, why, want, as)
		}
	}
}

// P12.5: a name that is not used turns nothing.
func TestBindUnused(t *testing.T) {
	r := rand.New(rand.NewSource(17))
	for range 20000 {
		var l []line.Line
		for i := range r.Intn(4) {
			var text strings.Builder
			for range r.Intn(9) {
				text.WriteString(pick(r, "$", "{", "}", "(", ")", "i", ":", "k", "kk", "$$k", "$${k}", "${kk}", "$(k:Q)", "${i}", "$j"))
			}
			l = append(l, line.Line{Text: text.String(), At: i, Command: r.Intn(2) == 0})
		}
		for _, name := range []string{"n", "nn", "I", "\xff", "x y"} {
			if got := Bind(l, name, "v$"); !slices.Equal(got, l) {
				t.Fatalf("Bind(%s, %q) = %s", toldLines(l), name, toldLines(got))
			}
		}
	}
	for _, text := range []string{"k", "$$k", "$${k}", "$$(k)", "{k}", "${kk}", "$(kk)", "${k:Q}", "${k", "$(k", "${k)", "${ k}", "$K", "$$$$k", "${a$$k}"} {
		l := []line.Line{{Text: text, At: 1}, {Text: text, At: 2, Command: true}}
		if got := Bind(l, "k", "v"); !slices.Equal(got, l) {
			t.Errorf("Bind(%q) = %s", text, toldLines(got))
		}
	}
}
