package parse

import (
	"math/rand"
	"slices"
	"strconv"
	"strings"
	"testing"

	"bobstay/api"
	"bobstay/cond"
	"bobstay/expand"
	"bobstay/glob"
	"bobstay/rule"
	"bobstay/vars"
	"bobstay/word"
)

// The kinds of what a makefile is made of.
const (
	aValue = iota
	aRule
	aCommand
	anUndef
	anInclude
	anError
	aCondition
	aLoop
)

// piece is what a makefile is made of: what it is is known, so that the model need
// not find it out of its text.
type piece struct {
	kind  int
	texts []string // of a value the name, the operator and the value; of a loop its list
	names []string
	ways  []way
	kids  []piece
	at    int
}

// way is a branch of a condition.
type way struct {
	word, text string
	kids       []piece
	at         int
}

// pick is one of some texts.
func pick(r *rand.Rand, texts ...string) string { return texts[r.Intn(len(texts))] }

// anyPieces are pieces that lie no more than so deep.
func anyPieces(r *rand.Rand, deep int) []piece {
	var l []piece
	for range 1 + r.Intn(4) {
		l = append(l, anyPiece(r, deep))
	}
	return l
}

// anyPiece is a piece that lies no more than so deep.
func anyPiece(r *rand.Rand, deep int) piece {
	kind := r.Intn(20)
	switch {
	case kind < 7:
		return piece{kind: aValue, texts: []string{pick(r, "A", "B", "C", "$i", "V$i", "V${j}x", "${A}", "V${A:M*b}", "$(N:UB)"), pick(r, "=", "+=", "+=", "?=", ":=", ":="), anyText(r)}}
	case kind < 11:
		return piece{kind: aRule, texts: []string{pick(r, "$i", "t", "u", "t$(j)", "${A:S/$/,/}", "${i:R}x") + pick(r, ":", ": ", " :: ", " ! ") + anyText(r) + pick(r, "", "", "; x $i", ";")}}
	case kind < 14:
		return piece{kind: aCommand, texts: []string{pick(r, "x $i", "$A ${i} $$i $(j:Q)", " @x", "x \\\n\ty $i", "A = b", ".endif", "# $j")}}
	case kind == 14:
		return piece{kind: anUndef, texts: []string{pick(r, "A", "A B", "$i", "${A}", "V$i C")}}
	case kind == 15:
		return piece{kind: anInclude, texts: []string{pick(r, "f", "g", "$i", "none")}}
	case kind == 16 && r.Intn(12) == 0:
		return piece{kind: anError}
	case deep == 0:
		return anyPiece(r, 0)
	case kind < 18:
		p := piece{kind: aCondition, ways: []way{{word: pick(r, "if", "if", "ifdef", "ifndef", "ifmake", "ifnmake")}}}
		for range r.Intn(3) {
			p.ways = append(p.ways, way{word: "elif"})
		}
		if r.Intn(2) == 0 {
			p.ways = append(p.ways, way{word: "else"})
		}
		for i := range p.ways {
			p.ways[i].text = anyCondition(r, p.ways[i].word)
			p.ways[i].kids = anyPieces(r, deep-1)
		}
		return p
	}
	p := piece{kind: aLoop, names: []string{pick(r, "i", "i", "j", "k")}, kids: anyPieces(r, deep-1)}
	p.texts = []string{pick(r, "a b", "a b", "a b c.x", "$A", "${A} ${B}", "", "x$$i $$$$", "$i y", "\"a b\"", "f g")}
	if r.Intn(3) == 0 {
		p.names, p.texts = []string{"i", "j"}, []string{pick(r, "a b", "a b c d", "$A x y", "1 $j")}
	}
	return p
}

// anyText is what a value may be.
func anyText(r *rand.Rand) string {
	return pick(r, "a", "b c", "$i", "${j}", "$i $j.c", "$A", "${A} $$x", "${V$i}", "${A:M$i*}", "", "b, c; d", "${A:N*$(j)}x", "${N:U${i}}", "$$i", "${B")
}

// anyCondition is a text that may stand behind a word that opens or parts.
func anyCondition(r *rand.Rand, word string) string {
	switch word {
	case "else":
		return ""
	case "ifdef", "ifndef":
		return pick(r, "A", "B", "V$i", "${A}", "i", "A B", "")
	case "ifmake", "ifnmake":
		return pick(r, "all", "$i", "*.o", "${A}", "x")
	}
	return pick(r, "1", "0", "$i == a", "\"${j}\" != b", "defined(A)", "target($i)", "commands(t) || commands($i)", "!target(t)", "exists($i)", "make($i*)", "empty(A)", "$i > 3", "${A} < 2", "$j")
}

// source writes pieces as lines, and numbers them.
func source(l []piece, lines *[]string) {
	add := func(s string) int {
		at := 1
		for _, x := range *lines {
			at += 1 + strings.Count(x, "\n")
		}
		*lines = append(*lines, s)
		return at
	}
	for i := range l {
		p := &l[i]
		switch p.kind {
		case aValue:
			p.at = add(p.texts[0] + " " + p.texts[1] + " " + p.texts[2])
		case aRule:
			p.at = add(p.texts[0])
		case aCommand:
			p.at = add("\t" + p.texts[0])
		case anUndef:
			p.at = add(".undef " + p.texts[0])
		case anInclude:
			p.at = add(".sinclude \"" + p.texts[0] + "\"")
		case anError:
			p.at = add(".error")
		case aCondition:
			for j := range p.ways {
				w := &p.ways[j]
				w.at = add("." + w.word + " " + w.text)
				source(w.kids, lines)
			}
			p.at = p.ways[0].at
			add(".endif")
		case aLoop:
			p.at = add(".for " + strings.Join(p.names, " ") + " in " + p.texts[0])
			source(p.kids, lines)
			add(".endfor")
		}
	}
}

// model reads pieces, one by one.
type model struct {
	in    Input
	files map[string][]piece
	file  string
	deep  int
	steps int
	rules []api.Rule
	wrong Problem
	trace []string // the lines that are read, as they are bound
}

// step takes a step, and tells whether there was one.
func (m *model) step(at int) bool {
	m.steps++
	return m.steps <= 20000 || m.ok(api.ErrFuel, at)
}

// ok tells whether nothing is wrong; else that is the problem.
func (m *model) ok(why api.Errno, at int) bool {
	if why == api.OK {
		return true
	}
	m.wrong = Problem{why, m.file, at}
	return false
}

// bind puts words in place of names in a text, the outer ones first.
func bind(s string, binds [][2]string) string {
	for _, b := range binds {
		value := strings.ReplaceAll(b[1], "$", "$$")
		s = strings.NewReplacer("$$", "$$", "${"+b[0]+"}", value, "$("+b[0]+")", value, "$"+b[0], value).Replace(s)
	}
	return s
}

// mean is what a bound text means.
func (m *model) mean(s string) (string, api.Errno) {
	meaning, _, why := expand.Text(s, m.in.Vars, m.in.Fuel)
	return meaning, why
}

// read reads pieces, and tells whether nothing went wrong.
func (m *model) read(l []piece, binds [][2]string) bool {
	for _, p := range l {
		if !m.step(p.at) || !m.piece(p, binds) {
			return false
		}
	}
	return true
}

// piece reads a piece.
func (m *model) piece(p piece, binds [][2]string) bool {
	var text []string
	for _, s := range p.texts {
		text = append(text, bind(s, binds))
	}
	switch p.kind {
	case aValue:
		m.trace = append(m.trace, strings.Join(text, " "))
		return m.value(text[0], text[1], strings.TrimSpace(text[2]), p.at)
	case aRule:
		m.trace = append(m.trace, text[0])
		meaning, why := m.mean(strings.TrimRight(text[0], " "))
		if !m.ok(why, p.at) {
			return false
		}
		r, f := rule.Parse(meaning, p.at)
		m.rules = append(m.rules, r)
		return m.ok(f.Why, p.at)
	case aCommand:
		m.trace = append(m.trace, "\t"+text[0])
		if len(m.rules) == 0 {
			return m.ok(api.ErrRule, p.at)
		}
		last := len(m.rules) - 1
		m.rules[last].Commands = append(m.rules[last].Commands, strings.ReplaceAll(text[0], "\n\t", "\n"))
		return true
	case anUndef:
		m.trace = append(m.trace, ".undef "+text[0])
		meaning, why := m.mean(text[0])
		if why == api.OK && strings.TrimSpace(meaning) == "" {
			why = api.ErrForm
		}
		for _, name := range strings.Fields(meaning) {
			m.in.Vars.Drop(vars.Global, name)
		}
		return m.ok(why, p.at)
	case anInclude:
		return m.include(text[0], p.at)
	case anError:
		m.trace = append(m.trace, ".error")
		return m.ok(api.ErrFail, p.at)
	case aCondition:
		return m.condition(p, binds)
	}
	return m.loop(p, text[0], binds)
}

// value gives a value.
func (m *model) value(name, operator, value string, at int) bool {
	name, why := m.mean(name)
	if !m.ok(why, at) {
		return false
	}
	if !vars.Right(name) {
		return m.ok(api.ErrForm, at)
	}
	old, is := m.in.Vars.In(vars.Global, name)
	_, any := m.in.Vars.Get(name)
	switch {
	case operator == ":=":
		value, why = m.mean(value)
	case operator == "+=" && is:
		value = old + " " + value
	case operator == "?=" && any:
		return true
	}
	return m.ok(why, at) && m.ok(m.in.Vars.Put(vars.Global, name, value), at)
}

// include reads a file, if there is one.
func (m *model) include(name string, at int) bool {
	name, why := m.mean(name)
	l, is := m.files[name]
	is = is || name == "a" // an empty file at the root
	if is && m.deep == 16 {
		why = api.ErrLoop
	}
	if is && why == api.OK {
		outer := m.file
		m.file = "/d/" + name
		m.deep++
		if !m.read(l, nil) {
			return false
		}
		m.deep--
		m.file = outer
	}
	return m.ok(why, at)
}

// condition reads the first way that holds.
func (m *model) condition(p piece, binds [][2]string) bool {
	for _, w := range p.ways {
		text := bind(w.text, binds)
		is, why := m.holds(w.word, text)
		if !m.ok(why, w.at) {
			return false
		}
		if is {
			return m.read(w.kids, binds)
		}
	}
	return true
}

// holds tells whether a way holds.
func (m *model) holds(by, text string) (bool, api.Errno) {
	if by == "else" {
		return true, api.OK
	}
	if by == "if" || by == "elif" {
		w := cond.World{Vars: m.in.Vars, Store: m.in.Store, Goals: m.in.Goals, Fuel: m.in.Fuel}
		for _, r := range m.rules {
			w.Targets = append(w.Targets, r.Targets...)
			if len(r.Commands) > 0 {
				w.Commands = append(w.Commands, r.Targets...)
			}
		}
		is, f := cond.Holds(text, w)
		return is, f.Why
	}
	meaning, why := m.mean(text)
	var is bool
	if by == "ifdef" || by == "ifndef" {
		_, is = m.in.Vars.Get(strings.Join(word.Fields(meaning), " "))
	} else {
		is = slices.ContainsFunc(m.in.Goals, func(goal string) bool { return glob.Match(meaning, goal) })
	}
	return is != strings.HasPrefix(by, "ifn"), why
}

// loop reads a loop.
func (m *model) loop(p piece, list string, binds [][2]string) bool {
	meaning, why := m.mean(list)
	words := word.Fields(meaning)
	if why == api.OK && len(words)%len(p.names) != 0 {
		why = api.ErrForm
	}
	if !m.ok(why, p.at) {
		return false
	}
	for l := range slices.Chunk(words, len(p.names)) {
		inner := slices.Clone(binds)
		for i, name := range p.names {
			inner = append(inner, [2]string{name, l[i]})
		}
		if !m.step(p.at) || !m.read(p.kids, inner) {
			return false
		}
	}
	return true
}

// worldOf is an input with files of pieces, and a model of it.
func worldOf(t *testing.T, files map[string][]piece) (Input, *model) {
	in := input(t, "/a", "", "/d/none/x", "")
	in.Goals = []string{"all", "a", "y.o"}
	in.Vars.Put(vars.Env, "A", "a b")
	in.Vars.Put(vars.Command, "i", "I")
	for name, l := range files {
		var lines []string
		source(l, &lines)
		write(t, in.Store, "/d/"+name, strings.Join(lines, "\n"))
	}
	other := in
	other.Vars = in.Vars.Copy()
	return in, &model{in: other, files: files, file: in.File}
}

// sameVars tells whether two sets have the same variables.
func sameVars(a, b *vars.Set) bool {
	for scope := vars.Local; scope <= vars.Env; scope++ {
		if !slices.Equal(a.Names(scope), b.Names(scope)) {
			return false
		}
		for _, name := range a.Names(scope) {
			x, _ := a.In(scope, name)
			y, _ := b.In(scope, name)
			if x != y {
				return false
			}
		}
	}
	return true
}

// unnumbered are rules without the numbers of their lines.
func unnumbered(l []api.Rule) []api.Rule {
	l = slices.Clone(l)
	for i := range l {
		l[i].At = 0
	}
	return l
}

// P14.1, P14.5, P14.6: any makefiles at all, held to the model, and to the lines that
// the model has read, written out.
func TestModel(t *testing.T) {
	r := rand.New(rand.NewSource(14))
	right := 0
	for range 30000 {
		files := map[string][]piece{"f": anyPieces(r, 1), "g": {{kind: aValue, texts: []string{"G", "+=", "$i"}}, {kind: aRule, texts: []string{"g: $G"}}}}
		in, m := worldOf(t, files)
		l := anyPieces(r, 3)
		var lines []string
		source(l, &lines)
		text := strings.Join(lines, "\n")
		got, p := Text(text, in)
		if m.read(l, nil) {
			right++
		} else {
			m.rules = nil
		}
		if told(got) != told(m.rules) || p != m.wrong || !sameVars(in.Vars, m.in.Vars) {
			t.Fatalf("Text(%q) = %s, %s, want %s, %s", text, told(got), toldProblem(p), told(m.rules), toldProblem(m.wrong))
		}
		again, _ := worldOf(t, nil)
		written := strings.Join(m.trace, "\n")
		flat, q := Text(written, again)
		if p == (Problem{}) && (told(unnumbered(flat)) != told(unnumbered(got)) || q != p || !sameVars(again.Vars, in.Vars)) {
			t.Fatalf("Text(%q) = %s, but written out %q: %s, %s", text, told(got), written, told(flat), toldProblem(q))
		}
	}
	if right < 5000 {
		t.Errorf("%d makefiles alone were right", right)
	}
}

// P14.4: two texts, one behind the other.
func TestTwoTexts(t *testing.T) {
	r := rand.New(rand.NewSource(15))
	right := 0
	for range 20000 {
		var lines [2][]string
		for i := range lines {
			source(append([]piece{{kind: aRule, texts: []string{"begin:"}}}, anyPieces(r, 1)...), &lines[i])
		}
		first, second := strings.Join(lines[0], "\n")+"\n", strings.Join(lines[1], "\n")+"\n"
		// What is asked of the rules ahead is not the same for each by itself.
		if strings.Contains(second, "target(") || strings.Contains(second, "commands(") {
			continue
		}
		one, _ := worldOf(t, nil)
		two, _ := worldOf(t, nil)
		both, p := Text(first+second, one)
		got, q := Text(first, two)
		if q == (Problem{}) {
			var behind []api.Rule
			behind, q = Text(second, two)
			for i := range behind {
				behind[i].At += strings.Count(first, "\n")
			}
			got = append(got, behind...)
			if q != (Problem{}) {
				q.At += strings.Count(first, "\n")
				got = nil
			} else {
				right++
			}
		}
		if p != q || told(both) != told(got) || !sameVars(one.Vars, two.Vars) {
			t.Fatalf("Text(%q) and Text(%q) = %s, %s, want %s, %s", first, second, told(got), toldProblem(q), told(both), toldProblem(p))
		}
	}
	if right < 2000 {
		t.Errorf("%d texts alone were right", right)
	}
}

// P14.5: a branch that does not hold turns nothing, whatever is in it.
func TestNotRead(t *testing.T) {
	r := rand.New(rand.NewSource(16))
	for range 5000 {
		var lines []string
		source(anyPieces(r, 3), &lines)
		kept := strings.Join(lines, "\n") + "\n"
		for _, text := range []string{".if 0\n" + kept + ".endif\n", ".if 1\n.elif 1\n" + kept + ".else\n" + kept + ".endif\n", ".ifdef none\n" + kept + ".endif\n", ".for i in\n" + kept + ".endfor\n"} {
			in, m := worldOf(t, nil)
			reads(t, in, text, "")
			if !sameVars(in.Vars, m.in.Vars) {
				t.Fatalf("Text(%q) turns variables", text)
			}
		}
	}
}

// P14.6: a for is as its lines, written out, also with those of each round behind one
// another and the numbers of its lines.
func TestForWritten(t *testing.T) {
	r := rand.New(rand.NewSource(17))
	for range 5000 {
		kids := anyPieces(r, 1)
		words := []string{pick(r, "a", "x.o"), pick(r, "b", "t"), pick(r, "a", "c")}
		var lines, inner []string
		source([]piece{{kind: aLoop, names: []string{"i"}, texts: []string{strings.Join(words, " ")}, kids: kids}}, &lines)
		source(kids, &inner)
		text := strings.Join(lines, "\n")
		written := ""
		for _, w := range words {
			written += bind(strings.Join(inner, "\n"), [][2]string{{"i", w}}) + "\n"
		}
		in, _ := worldOf(t, nil)
		other, _ := worldOf(t, nil)
		got, p := Text(text, in)
		want, q := Text(written, other)
		if told(unnumbered(got)) != told(unnumbered(want)) || p.Why != q.Why || !sameVars(in.Vars, other.Vars) {
			t.Fatalf("Text(%q) = %s, %s, but written out %q: %s, %s", text, told(got), toldProblem(p), written, told(want), toldProblem(q))
		}
		for _, x := range got {
			if x.At < 2 || x.At > 1+strings.Count(strings.Join(inner, "\n")+"\n", "\n") {
				t.Fatalf("Text(%q) has a rule at %d", text, x.At)
			}
		}
	}
}

// P14.3: any lines at all, of parts of which it is known what they are.
func TestModelGives(t *testing.T) {
	r := rand.New(rand.NewSource(18))
	found := 0
	for range 200000 {
		var text strings.Builder
		at, parts := -1, -1 // the first = and the first : or ! that no use takes
		for range r.Intn(8) {
			s := pick(r, "A", "b", ".", " ", "\t", "=", "=", "+", "?", ":", "!", "$A", "$=", "${A}", "${A=b}", "$(:=!)", "${A:S/${=}/=/}", "$$", "$(a b)", "${ }", "{", ")", "'")
			switch {
			case s == "=" && at < 0:
				at = text.Len()
			case (s == ":" || s == "!") && parts < 0:
				parts = text.Len()
			}
			text.WriteString(s)
		}
		s := text.String()
		var want [3]string
		if at >= 0 {
			end := at
			if end > 0 && strings.Contains("+?:", s[end-1:end]) {
				end--
			}
			name := strings.Trim(s[:end], " \t")
			if name != "" && !strings.ContainsAny(name, " \t") && (parts < 0 || parts >= end) {
				want = [3]string{name, s[end : at+1], strings.TrimLeft(s[at+1:], " \t")}
				found++
			}
		}
		if name, operator, value := Gives(s); [3]string{name, operator, value} != want {
			t.Fatalf("Gives(%q) = %q, %q, %q, want %q", s, name, operator, value, want)
		}
	}
	if found < 10000 {
		t.Errorf("%d lines alone gave a value", found)
	}
}

// P14.3: Files of any rules at all.
func TestModelFiles(t *testing.T) {
	r := rand.New(rand.NewSource(19))
	for range 20000 {
		var l []api.Rule
		there := map[string]bool{}
		names := func() []string {
			var l []string
			for range r.Intn(4) {
				name := pick(r, "a", "b", "c.o", ".c.o", ".PHONY", ".WAIT", ".PATH.c", ".MAIN", ".END", "\xff", strconv.Itoa(r.Intn(20)))
				there[name] = there[name] || rule.Class(name) == 0
				l = append(l, name)
			}
			return l
		}
		for range r.Intn(4) {
			l = append(l, api.Rule{Targets: names(), Kind: 1 + r.Intn(3), Sources: names(), Commands: []string{"c"}})
		}
		got := Files(l)
		for i, name := range got {
			if i > 0 && got[i-1] >= name || !there[name] {
				t.Fatalf("Files(%s) = %q", told(l), got)
			}
			delete(there, name)
		}
		for name, is := range there {
			if is {
				t.Fatalf("Files(%s) = %q, without %q", told(l), got, name)
			}
		}
	}
}
