package loop

import (
	"math"
	"slices"
	"strconv"
	"strings"
	"testing"

	"bobstay/api"
	"bobstay/line"
)

// lines are lines that are no commands, by numbers from 1 on; those that begin
// with a byte 9 are commands.
func lines(texts ...string) []line.Line {
	var l []line.Line
	for i, text := range texts {
		behind, command := strings.CutPrefix(text, "\t")
		l = append(l, line.Line{Text: behind, At: i + 1, Command: command})
	}
	return l
}

// short is a text for a message.
func short(s string) string {
	if len(s) > 2000 {
		return s[:2000] + ".. of " + strconv.Itoa(len(s)) + " bytes"
	}
	return s
}

// toldLine is a line, with all of its fields; without its number, if that is not
// asked for.
func toldLine(l line.Line, numbers bool) string {
	if l.Command {
		return "!" + told(l.Text, l.At, numbers)
	}
	return told(l.Text, l.At, numbers)
}

// told is a text with a number.
func told(text string, at int, numbers bool) string {
	if !numbers {
		return strconv.Quote(text)
	}
	return strconv.Itoa(at) + strconv.Quote(text)
}

// toldLines are lines, with all of their fields.
func toldLines(l []line.Line) string {
	var s strings.Builder
	for _, x := range l {
		s.WriteString(toldLine(x, true) + " ")
	}
	return s.String()
}

// toldBlocks are blocks, with all of their fields, but for numbers, if these are
// not asked for, and for how the lines that open conditions are written, which
// stands in their branches too.
func toldBlocks(n []Node, numbers bool) string {
	var s strings.Builder
	for _, x := range n {
		s.WriteString("{" + strconv.Itoa(x.Kind))
		if numbers || x.Kind != 2 {
			s.WriteString(" " + toldLine(x.Line, numbers))
		}
		for _, b := range x.Branches {
			s.WriteString(" <" + strconv.Quote(b.Word) + told(b.Text, b.At, numbers) + toldBlocks(b.Kids, numbers) + ">")
		}
		for _, name := range x.Names {
			s.WriteString(" " + strconv.Quote(name))
		}
		if x.List != "" {
			s.WriteString(" [" + strconv.Quote(x.List) + "]")
		}
		s.WriteString(toldBlocks(x.Kids, numbers) + "}")
	}
	return s.String()
}

// checkBuild holds lines to their blocks.
func checkBuild(t *testing.T, l []line.Line, want ...Node) {
	t.Helper()
	got, f := Build(l)
	if f != (api.Fault{}) || toldBlocks(got, true) != toldBlocks(want, true) {
		t.Errorf("Build(%s) = %s, %v, want %s", short(toldLines(l)), short(toldBlocks(got, true)), f, short(toldBlocks(want, true)))
	}
}

// checkFault holds lines to a fault, also if they have other numbers.
func checkFault(t *testing.T, why api.Errno, at int, texts ...string) {
	t.Helper()
	for _, turn := range []func(int) int{
		func(at int) int { return at },
		func(at int) int { return 10*at + 7 },
		func(at int) int { return -at },
	} {
		l := lines(texts...)
		for i := range l {
			l[i].At = turn(l[i].At)
		}
		want := api.Fault{Why: why, At: turn(at)}
		if got, f := Build(l); f != want || len(got) > 0 {
			t.Errorf("Build(%s) = %s, %v, want %v", short(toldLines(l)), short(toldBlocks(got, true)), f, want)
		}
	}
}

// checkFlat holds blocks to their lines.
func checkFlat(t *testing.T, n []Node, want ...line.Line) {
	t.Helper()
	if got := Flat(n); !slices.Equal(got, want) {
		t.Errorf("Flat = %s, want %s", short(toldLines(got)), short(toldLines(want)))
	}
}

// plainNode is a block of one line that is no command.
func plainNode(at int, text string) Node {
	return Node{Kind: 1, Line: line.Line{Text: text, At: at}}
}

// P12.1: Directive.
func TestDirective(t *testing.T) {
	for text, want := range map[string][2]string{
		".if x":                 {"if", "x"},
		".if":                   {"if", ""},
		".if ":                  {"if", ""},
		".if \t ":               {"if", ""},
		". \t if \t x  y ":      {"if", "x  y "},
		".\tif\tx":              {"if", "x"},
		".if(x)":                {"if", "(x)"},
		".if!x":                 {"if", "!x"},
		`.if"x"`:                {"if", `"x"`},
		".if (x)":               {"if", "(x)"},
		".if ((":                {"if", "(("},
		".if!":                  {"if", "!"},
		".for i in a b":         {"for", "i in a b"},
		".endfor":               {"endfor", ""},
		".else":                 {"else", ""},
		`.include "a"`:          {"include", `"a"`},
		`.include"a"`:           {"include", `"a"`},
		".include <a>":          {"include", "<a>"},
		".x":                    {"x", ""},
		".abcxyz abcxyz":        {"abcxyz", "abcxyz"},
		".a .b":                 {"a", ".b"},
		".a $b":                 {"a", "$b"},
		".a\x20\xff":            {"a", "\xff"},
		".a \n b":               {"a", "\n b"},
		".undef A B":            {"undef", "A B"},
		".a : b":                {"a", ": b"},
		".elif defined(A) && 1": {"elif", "defined(A) && 1"},
		"":                      {}, " ": {}, "a": {}, "if x": {}, " .if x": {}, "\t.if x": {}, "x.if": {},
		".": {}, ". ": {}, ".(": {}, ".!": {}, `."`: {}, ". (x)": {}, ".  !": {}, `. "a"`: {},
		"..if x": {}, ". .if": {}, ".c.o:": {}, ".c": {"c", ""}, ".PHONY: x": {}, ".If x": {}, ".iF x": {}, ".if1": {}, ".if_ x": {}, ".if-x": {},
		".if:": {}, ".if: x": {}, ".if$x": {}, ".if)": {}, ".if'x'": {}, ".if\n": {}, ".if\nx": {}, ".if\r": {}, ".if\vx": {}, ".\nif x": {},
		".include<a>": {}, ".a=b": {}, ".a#": {}, ".a,": {}, ".1": {}, ".`a": {}, ".{a": {}, ".a`": {}, ".a{": {}, ".é": {}, ".aé": {}, ".\xff": {}, ".a\xff": {}, ".a\x00": {},
	} {
		if word, behind := Directive(line.Line{Text: text, At: 3}); word != want[0] || behind != want[1] {
			t.Errorf("Directive(%q) = %q, %q, want %q", text, word, behind, want)
		}
		if word, behind := Directive(line.Line{Text: text, Command: true}); word != "" || behind != "" {
			t.Errorf("Directive of the command %q = %q, %q", text, word, behind)
		}
	}
}

// P12.1: the first example, and loops with more names.
func TestBuildFor(t *testing.T) {
	checkBuild(t, nil)
	checkBuild(t, lines(".for i in a b", "$i.o: $i.c", ".endfor"),
		Node{Kind: 3, Line: line.Line{Text: ".for i in a b", At: 1}, Names: []string{"i"}, List: "a b", Kids: []Node{plainNode(2, "$i.o: $i.c")}})
	checkBuild(t, lines(".for i in a b", ".endfor  "),
		Node{Kind: 3, Line: line.Line{Text: ".for i in a b", At: 1}, Names: []string{"i"}, List: "a b"})
	for text, want := range map[string]Node{
		".for i in":                  {Names: []string{"i"}},
		".for i in \t ":              {Names: []string{"i"}},
		". for\ti\tin\ta":            {Names: []string{"i"}, List: "a"},
		".for  a  b\t c  in   x  y ": {Names: []string{"a", "b", "c"}, List: "x  y "},
		".for b a B in x":            {Names: []string{"b", "a", "B"}, List: "x"},
		".for i in in in":            {Names: []string{"i"}, List: "in in"},
		".for i in i j in k":         {Names: []string{"i"}, List: "i j in k"},
		".for In IN inn n in a":      {Names: []string{"In", "IN", "inn", "n"}, List: "a"},
		".for _ 0 a_9Z __ 00 in $A":  {Names: []string{"_", "0", "a_9Z", "__", "00"}, List: "$A"},
		".for i in ${A:M*} # x":      {Names: []string{"i"}, List: "${A:M*} # x"},
		".for if for in .for i in b": {Names: []string{"if", "for"}, List: ".for i in b"},
		".for az AZ 09 in \n":        {Names: []string{"az", "AZ", "09"}, List: "\n"},
	} {
		want.Kind, want.Line = 3, line.Line{Text: text, At: 1}
		checkBuild(t, lines(text, ".endfor"), want)
	}
}

// P12.1: conditions, and the branches of one.
func TestBuildIf(t *testing.T) {
	for _, word := range []string{"if", "ifdef", "ifndef", "ifmake", "ifnmake"} {
		open := line.Line{Text: "." + word + " x", At: 1}
		checkBuild(t, lines(open.Text, ".endif"), Node{Kind: 2, Line: open, Branches: []Branch{{Word: word, Text: "x", At: 1}}})
		checkFault(t, api.ErrEnd, 1, open.Text)
	}
	checkBuild(t, lines(".if", "a", ".elif", "\tb", "c", ". elif!x ", ".else \t", "d", ".endif ", "e"),
		Node{Kind: 2, Line: line.Line{Text: ".if", At: 1}, Branches: []Branch{
			{Word: "if", At: 1, Kids: []Node{plainNode(2, "a")}},
			{Word: "elif", At: 3, Kids: []Node{{Kind: 1, Line: line.Line{Text: "b", At: 4, Command: true}}, plainNode(5, "c")}},
			{Word: "elif", Text: "!x ", At: 6},
			{Word: "else", At: 7, Kids: []Node{plainNode(8, "d")}},
		}},
		plainNode(10, "e"))
	checkBuild(t, lines(".if(x)", ".else", ".endif"),
		Node{Kind: 2, Line: line.Line{Text: ".if(x)", At: 1}, Branches: []Branch{{Word: "if", Text: "(x)", At: 1}, {Word: "else", At: 2}}})
}

// P12.1: blocks within one another, and one behind the other.
func TestBuildNested(t *testing.T) {
	checkBuild(t, lines("a", ".if x", ".for i in 1", "b", ".if y", "c", ".else", ".endif", "d", ".endfor", ".elif z", "e", ".endif", ".if w", ".endif", "f"),
		plainNode(1, "a"),
		Node{Kind: 2, Line: line.Line{Text: ".if x", At: 2}, Branches: []Branch{
			{Word: "if", Text: "x", At: 2, Kids: []Node{
				{Kind: 3, Line: line.Line{Text: ".for i in 1", At: 3}, Names: []string{"i"}, List: "1", Kids: []Node{
					plainNode(4, "b"),
					{Kind: 2, Line: line.Line{Text: ".if y", At: 5}, Branches: []Branch{
						{Word: "if", Text: "y", At: 5, Kids: []Node{plainNode(6, "c")}},
						{Word: "else", At: 7},
					}},
					plainNode(9, "d"),
				}},
			}},
			{Word: "elif", Text: "z", At: 11, Kids: []Node{plainNode(12, "e")}},
		}},
		Node{Kind: 2, Line: line.Line{Text: ".if w", At: 14}, Branches: []Branch{{Word: "if", Text: "w", At: 14}}},
		plainNode(16, "f"))
	// An else within another condition is none of this one's.
	if _, f := Build(lines(".if a", ".if b", ".else", ".endif", ".elif c", ".if d", ".else", ".endif", ".else", ".endif")); f != (api.Fault{}) {
		t.Errorf("an else within a branch: %v", f)
	}
}

// P12.1: lines that are plain.
func TestBuildPlain(t *testing.T) {
	for _, text := range []string{
		"", " ", "a", "\t.if x", "\t.endif", "\t.else", "\t.for", "\t.endfor", " .if x", " .endif", "if x", ".", ".if: x", ".else:", ".endif.o", ".PHONY: a",
		".include \"a\"", ".undef A", ".error", ".ifs x", ".elifdef x", ".elseif", ".endifs", ".fi", ".forx", ".end", ".endwhile", ".i f", ".IF x", ".e ndif", "..endif",
	} {
		l := lines(text)
		checkBuild(t, l, Node{Kind: 1, Line: l[0]})
		in := lines(".if", text, ".else", text, ".endif")
		checkBuild(t, in, Node{Kind: 2, Line: in[0], Branches: []Branch{
			{Word: "if", At: 1, Kids: []Node{{Kind: 1, Line: in[1]}}},
			{Word: "else", At: 3, Kids: []Node{{Kind: 1, Line: in[3]}}},
		}})
	}
}

// P12.1: what may not stand where it stands.
func TestForm(t *testing.T) {
	for _, word := range []string{".elif x", ".elif", ".else", ".endif", ".endfor"} {
		checkFault(t, api.ErrForm, 1, word)
		checkFault(t, api.ErrForm, 2, "a", word, ".if", ".for")
		checkFault(t, api.ErrForm, 3, ".if", ".endif", word)
		checkFault(t, api.ErrForm, 3, ".for i in", ".endfor", word)
		if word != ".endfor" {
			checkFault(t, api.ErrForm, 2, ".for i in", word)
			checkFault(t, api.ErrForm, 4, ".if", ".for i in", "a", word)
		}
	}
	checkFault(t, api.ErrForm, 2, ".if", ".endfor")
	checkFault(t, api.ErrForm, 3, ".for i in", ".if", ".endfor", ".endif")
	checkFault(t, api.ErrForm, 3, ".if", ".else", ".else")
	checkFault(t, api.ErrForm, 3, ".if", ".else", ".elif x", ".endif")
	checkFault(t, api.ErrForm, 6, ".if", ".elif", ".else", ".if", ".endif", ".else")
	checkFault(t, api.ErrForm, 3, ".if", ".else", ".endfor")
	for _, text := range []string{" x", "(x)", "!x", "!", `""`, " \t!", " .", " ("} {
		checkFault(t, api.ErrForm, 2, ".if", ".else"+text, ".endif")
		checkFault(t, api.ErrForm, 2, ".if", ".endif"+text)
		checkFault(t, api.ErrForm, 2, ".for i in", ".endfor"+text)
		checkFault(t, api.ErrForm, 1, ".else"+text)
	}
}

// P12.1: texts of a for that may not be.
func TestForText(t *testing.T) {
	for _, text := range []string{
		"", " ", " i", " i j", " i j k", " in", " in a", " in in", " in in a", " i  In a", " i IN a", " i,in a", " iin a", " i in,a", " i in(a)", " i in$A", " i in\na",
		" i i in a", " i j i in a", " a b c c in", " i- in a", " -i in a", " i.j in a", " $i in a", " ${i} in a", " i,j in a", " i, j in a", " (i in a)", "(i in a)", "!i in a",
		`"i" in a`, ` "i" in a`, " é in a", " \xff in a", " i\x00 in a", " i\n in a", " \n in a", " : in a", " @ in a", " [ in a", " ` in a", " { in a", " / in a", " a/ in b", " # in a",
	} {
		checkFault(t, api.ErrForm, 1, ".for"+text)
		checkFault(t, api.ErrForm, 3, "a", ".if", ".for"+text, ".endfor", ".endif")
	}
}

// nested are lines that open so many blocks, of both kinds by turns.
func nested(n int) []string {
	var l []string
	for i := range n {
		l = append(l, []string{".if x", ".for i in a", ".ifdef y", ".for a b in"}[i%4])
	}
	return l
}

// closing are lines that close so many blocks that nested has opened.
func closing(n int) []string {
	var l []string
	for i := n - 1; i >= 0; i-- {
		l = append(l, []string{".endif", ".endfor"}[i%2])
	}
	return l
}

// P12.1: 32 blocks may be open; the 33rd is one too many.
func TestDeep(t *testing.T) {
	most := append(nested(32), "a")
	whole := append(slices.Clone(most), closing(32)...)
	if n, f := Build(lines(whole...)); len(n) != 1 || f != (api.Fault{}) {
		t.Errorf("32 blocks: %d, %v", len(n), f)
	}
	if n, f := Build(lines(append(slices.Clone(whole), whole...)...)); len(n) != 2 || f != (api.Fault{}) {
		t.Errorf("32 blocks, twice: %d, %v", len(n), f)
	}
	for _, open := range []string{".if", ".ifmake x", ".for i in a"} {
		checkFault(t, api.ErrMany, 34, append(slices.Clone(most), open)...)
		checkFault(t, api.ErrMany, 34, append(slices.Clone(most), open, ".endif x", ".for")...)
	}
	checkFault(t, api.ErrMany, 33, nested(200)...)
	// One that closes leaves its place.
	again := append(slices.Clone(most), ".endfor", ".if z", ".endif", ".for j in")
	checkFault(t, api.ErrMany, 38, append(slices.Clone(again), ".if")...)
	checkFault(t, api.ErrEnd, 37, again...)
	// What may not be is told ahead of what is too much.
	checkFault(t, api.ErrForm, 34, append(slices.Clone(most), ".for i")...)
	checkFault(t, api.ErrForm, 34, append(slices.Clone(most), ".endif")...)
}

// P12.1: a block that is open at the end is told by its first line.
func TestEnd(t *testing.T) {
	checkFault(t, api.ErrEnd, 1, ".if")
	checkFault(t, api.ErrEnd, 1, ".if x", "a", ".elif y", ".else", "b")
	checkFault(t, api.ErrEnd, 2, "a", ".for i in", "\t.endfor")
	checkFault(t, api.ErrEnd, 3, ".if", ".else", ".for i in a", "b")
	checkFault(t, api.ErrEnd, 2, ".for i in", ".if", ".if", ".endif", ".else")
	checkFault(t, api.ErrEnd, 1, ".if", ".for i in", ".endfor")
	checkFault(t, api.ErrEnd, 32, nested(32)...)
	for n := 1; n <= 32; n++ {
		checkFault(t, api.ErrEnd, 1, append(nested(n), closing(n)[:n-1]...)...)
	}
}

// P12.1: the first fault is told, whatever is behind it.
func TestFirst(t *testing.T) {
	for _, bad := range []string{".endif", ".for", ".else x"} {
		checkFault(t, api.ErrForm, 2, ".for i in a", bad, ".endif", ".if")
	}
	// Numbers do not tell which one is first.
	l := lines(".if", ".endfor", ".else x")
	l[0].At, l[1].At, l[2].At = 9, 5, 1
	if n, f := Build(l); len(n) > 0 || f != (api.Fault{Why: api.ErrForm, At: 5}) {
		t.Errorf("Build with numbers that fall: %v", f)
	}
	if n, f := Build([]line.Line{{Text: ".for"}}); len(n) > 0 || f != (api.Fault{Why: api.ErrForm}) {
		t.Errorf("Build with a number 0: %v", f)
	}
}

// P12.2: Flat of blocks that were built.
func TestFlat(t *testing.T) {
	checkFlat(t, nil)
	l := lines("a", "\tb", ". if!x", ".for  i j in  a  b ", "$i.o: $i.c", ". endfor", ".elif", "\t.if", ". else ", "c", ".endif ", ".ifdef  X Y ", ".endif", "d")
	n, f := Build(l)
	if f != (api.Fault{}) {
		t.Fatal(f)
	}
	checkFlat(t, n, l[0], l[1],
		line.Line{Text: ".if !x", At: 3},
		l[3], l[4], line.Line{Text: ".endfor", At: 4},
		line.Line{Text: ".elif", At: 7}, l[7],
		line.Line{Text: ".else", At: 9}, l[9],
		line.Line{Text: ".endif", At: 3},
		line.Line{Text: ".ifdef X Y ", At: 12}, line.Line{Text: ".endif", At: 12},
		l[13])
}

// P12.2: Flat of blocks that nobody built.
func TestFlatByHand(t *testing.T) {
	odd := line.Line{Text: "odd", At: -7, Command: true}
	kid := []Node{plainNode(3, "kid")}
	checkFlat(t, []Node{{Kind: 1}}, line.Line{})
	checkFlat(t, []Node{{Kind: 1, Line: odd, Kids: kid, Branches: []Branch{{Word: "if", Kids: kid}}}}, odd)
	checkFlat(t, []Node{{Kind: 2, Line: odd, Kids: kid}}, line.Line{Text: ".endif", At: -7})
	checkFlat(t, []Node{{Kind: 2, Line: odd, Branches: []Branch{{At: 4}, {Word: "x", Text: " y", At: 5, Kids: kid}}}},
		line.Line{Text: ".", At: 4}, line.Line{Text: ".x  y", At: 5}, kid[0].Line, line.Line{Text: ".endif", At: -7})
	checkFlat(t, []Node{{Kind: 3, Line: odd, Names: []string{"a"}, List: "b", Branches: []Branch{{Word: "if", Kids: kid}}}}, odd, line.Line{Text: ".endfor", At: -7})
	for _, kind := range []int{0, 4, -1, 5, math.MaxInt, math.MinInt} {
		none := Node{Kind: kind, Line: odd, Kids: kid, Branches: []Branch{{Word: "if", Kids: kid}}}
		checkFlat(t, []Node{none})
		checkFlat(t, []Node{none, {Kind: 3, Line: odd, Kids: []Node{none, kid[0], none}}, none, kid[0]},
			odd, kid[0].Line, line.Line{Text: ".endfor", At: -7}, kid[0].Line)
	}
}

// tower is so many blocks of a kind within one another, with others in the innermost.
func tower(kind, n int, kids ...Node) []Node {
	for i := n; i > 0; i-- {
		x := Node{Kind: kind, Line: line.Line{Text: ".for i in a", At: i}, Kids: kids}
		if kind == 2 {
			x = Node{Kind: kind, Line: x.Line, Branches: []Branch{{Word: "if", At: i}, {Word: "else", At: i, Kids: kids}}}
		}
		kids = []Node{x}
	}
	return kids
}

// P12.2: trees of 32 blocks within one another have lines; those of 33 have none.
func TestFlatDeep(t *testing.T) {
	leaf := plainNode(99, "leaf")
	for _, kind := range []int{2, 3} {
		each := kind // lines with which a block begins
		if kind == 3 {
			each = 1
		}
		for n := 1; n <= 40; n++ {
			want := n*(each+1) + 1
			if n > 32 {
				want = 0
			}
			if got := len(Flat(tower(kind, n, leaf))); got != want {
				t.Errorf("%d of kind %d: %d lines, want %d", n, kind, got, want)
			}
		}
		// What is no block that opens is not counted.
		if got := len(Flat(tower(kind, 32, leaf, Node{Kind: 9, Kids: tower(3, 40)}, leaf))); got != 32*(each+1)+2 {
			t.Errorf("32 of kind %d with leaves: %d lines", kind, got)
		}
		for _, last := range []Node{{Kind: 2}, {Kind: 3}} {
			checkFlat(t, tower(kind, 32, leaf, leaf, last))
			checkFlat(t, tower(kind, 30, append(tower(2, 2, leaf), tower(3, 3, leaf)...)...))
			// The trees beside one that is too deep stay.
			checkFlat(t, slices.Concat([]Node{leaf}, tower(kind, 32, leaf, last), []Node{leaf}, tower(kind, 40)), leaf.Line, leaf.Line)
		}
	}
}

// P12.2: trees that lie within themselves have no lines.
func TestFlatEndless(t *testing.T) {
	leaf := plainNode(99, "leaf")
	loops := make([]Node, 3)
	for i := range loops {
		loops[i] = Node{Kind: 3, Kids: loops}
	}
	checkFlat(t, loops)
	branches := []Branch{{Word: "if"}, {Word: "elif"}, {Word: "else"}}
	for i := range branches {
		branches[i].Kids = []Node{leaf, {Kind: 2, Branches: branches}}
	}
	checkFlat(t, []Node{leaf, {Kind: 2, Branches: branches}, leaf}, leaf.Line, leaf.Line)
	own := make([]Node, 1)
	own[0] = Node{Kind: 1, Line: leaf.Line, Kids: own}
	checkFlat(t, own, leaf.Line)
}

// P12.3: Bind of one text.
func TestBind(t *testing.T) {
	for _, c := range []struct{ name, value, text, want string }{
		{"i", "a", "$i.o: $i.c", "a.o: a.c"},
		{"i", "a", "", ""},
		{"i", "a", "i", "i"},
		{"i", "a", "${i}$(i)$i", "aaa"},
		{"i", "", "<${i}$(i)$i>", "<>"},
		{"i", "a b", "${i} $(i) $i", "a b a b a b"},
		{"i", "a", "$ii $ij ${ii} ${ij}", "ai aj ${ii} ${ij}"},
		{"ii", "a", "$ii ${ii} $(ii) ${i} ${iii}", "$ii a a ${i} ${iii}"},
		{"i", "a", "$I ${I} ${ i} ${i }", "$I ${I} ${ i} ${i }"},
		{"i", "a", "${i:Q} $(i:M*) ${i:} ${i$j}", "${i:Q} $(i:M*) ${i:} ${i$j}"},
		{"i", "a", "${i) $(i} ${i", "${i) $(i} ${i"},
		// A $$ is no use.
		{"i", "a", "$$i $${i} $$(i) $$$i $$$$i", "$$i $${i} $$(i) $$a $$$$i"},
		{"i", "a", "${A$$i}$i", "${A$$i}a"},
		{"i", "a", "$", "$"},
		{"i", "a", "$i$", "a$"},
		{"$", "a", "$$ $$$ $$$$ ${$} $($) ${$$}", "$$ $$$ $$$$ ${$} $($) ${$$}"},
		{"$$", "a", "$$ ${$$} $($$) $$$$", "$$ a a $$$$"},
		// Within others.
		{"i", "a", "${$i}", "${a}"},
		{"i", "a", "${${i}} $($(i)) ${$(i)} $(${i})", "${a} $(a) ${a} $(a)"},
		{"i", "a", "${A$i:M$i:S/${i}/$(i)/}", "${Aa:Ma:S/a/a/}"},
		{"i", "a", "${A:M${B:U${C$i}}}", "${A:M${B:U${Ca}}}"},
		{"i", "a", "${i$i}", "${ia}"},
		{"i", "a", "${{$i}} $(($i))", "${{a}} $((a))"},
		{"i", "a", "$A$i$B${i}", "$Aa$Ba"},
		{"i", "a", "$A{i} $}i", "$A{i} $}i"},
		// Of a use that does not end what is in it is bound.
		{"i", "a", "${A $i ${i}", "${A a a"},
		{"i", "a", "$( ${i} $(i", "$( a $(i"},
		// Each $ of the value is two; the value is not looked through.
		{"i", "$", "$i${i}$(i)", "$$$$$$"},
		{"i", "$i", "$i", "$$i"},
		{"i", "${i}$$", "<$i>", "<$${i}$$$$>"},
		{"i", "{i}", "$$$i", "$${i}"},
		{"i", "}", "${A$i}", "${A}}"},
		{"i", "\n\x00\xff", "$i", "\n\x00\xff"},
		// Names that no for has.
		{"", "a", "${} $() $ $x ${ }", "a a $ $x ${ }"},
		{"{", "a", "${ $({) ${{} ${{}}", "${ a ${{} ${{}}"},
		{"(", "a", "$( ${(} $(() $(())", "$( a $(() $(())"},
		{"}", "a", "$} $(}) ${}} ${x}", "a a ${}} ${x}"},
		{")", "a", "$) ${)} $()) $(x)", "a a $()) $(x)"},
		{" ", "a", "$ x${ }", "axa"},
		{"a}b", "x", "${a}b} $(a}b)", "${a}b} x"},
		{"a{b}", "x", "${a{b}} $(a{b})", "x x"},
		{"$x", "a", "${$x} $$x $($x) ${$x:Q}", "a $$x a ${$x:Q}"},
		{"${i}", "a", "${${i}} ${i}", "a ${i}"},
		{"\xff", "a", "$\xff ${\xff}", "a a"},
		{"é", "a", "$é ${é}", "$é a"},
	} {
		for _, command := range []bool{false, true} {
			got := Bind([]line.Line{{Text: c.text, At: 5, Command: command}}, c.name, c.value)
			if want := []line.Line{{Text: c.want, At: 5, Command: command}}; !slices.Equal(got, want) {
				t.Errorf("Bind(%q, %q, %q) = %s, want %s", c.text, c.name, c.value, toldLines(got), toldLines(want))
			}
		}
	}
}

// P12.3: Bind of many lines, of all kinds.
func TestBindLines(t *testing.T) {
	if got := Bind(nil, "i", "a"); len(got) > 0 {
		t.Errorf("Bind of no lines = %s", toldLines(got))
	}
	l := lines(".for $i in ${i}", "\techo $i $$i", "", "$i", ".endfor")
	want := lines(".for x$$ in x$$", "\techo x$$ $$i", "", "x$$", ".endfor")
	if got := Bind(l, "i", "x$"); !slices.Equal(got, want) {
		t.Errorf("Bind(%s) = %s", toldLines(l), toldLines(got))
	}
	// The text is of no bounded length.
	long := strings.Repeat("${i}$$", 1<<17)
	if got := Bind([]line.Line{{Text: long}}, "i", "abcd"); len(got) != 1 || got[0].Text != strings.Repeat("abcd$$", 1<<17) {
		t.Errorf("Bind of a long text")
	}
}

// P12.3: Rounds.
func TestRounds(t *testing.T) {
	for _, c := range []struct{ names, words, want int }{
		{1, 0, 0}, {1, 1, 1}, {1, 7, 7}, {2, 0, 0}, {2, 2, 1}, {2, 6, 3}, {3, 9, 3}, {7, 7, 1}, {4096, 4096, 1}, {4096, 0, 0},
		{1, math.MaxInt, math.MaxInt}, {math.MaxInt, math.MaxInt, 1}, {math.MaxInt, 0, 0}, {7, math.MaxInt, math.MaxInt / 7},
	} {
		if got, e := Rounds(c.names, c.words); got != c.want || e != api.OK {
			t.Errorf("Rounds(%d, %d) = %d, %v, want %d", c.names, c.words, got, e, c.want)
		}
	}
	for _, c := range []struct{ names, words int }{
		{0, 0}, {0, 1}, {-1, 0}, {-1, 1}, {-1, -1}, {-2, 4}, {1, -1}, {2, -2}, {2, 1}, {2, 3}, {3, 1}, {3, 4}, {4096, 1}, {2, math.MaxInt},
		{math.MinInt, math.MinInt}, {-1, math.MinInt}, {1, math.MinInt}, {math.MinInt, 0}, {math.MaxInt, 1}, {math.MaxInt, math.MinInt},
	} {
		if got, e := Rounds(c.names, c.words); got != 0 || e != api.ErrForm {
			t.Errorf("Rounds(%d, %d) = %d, %v", c.names, c.words, got, e)
		}
	}
}

// R4: what is handed in stays, and what is answered is the caller's.
func TestOwn(t *testing.T) {
	l := lines(".for i j in a b", "$i", ".if x", "$i", ".else", "$j", ".endif", ".endfor")
	kept := slices.Clone(l)
	n, _ := Build(l)
	again, _ := Build(l)
	all := toldBlocks(n, true)
	flat := Flat(n)
	bound := Bind(l, "i", "x")
	if !slices.Equal(l, kept) || toldBlocks(n, true) != all {
		t.Errorf("the arguments have turned: %s, %s", toldLines(l), toldBlocks(n, true))
	}
	was := slices.Clone(bound)
	for i := range l {
		l[i] = line.Line{}
	}
	clear(flat)
	if toldBlocks(n, true) != all || !slices.Equal(bound, was) {
		t.Errorf("the answers hang on the arguments")
	}
	// Each list that is answered is by itself, with what it may yet grow to.
	_ = append(n[0].Kids, plainNode(1, "x"))
	_ = append(n[0].Kids[1].Branches, Branch{Word: "x"})
	_ = append(n[0].Kids[1].Branches[0].Kids, plainNode(1, "x"))
	_ = append(n[0].Names, "x")
	if toldBlocks(n, true) != all {
		t.Errorf("two lists of an answer lie in one another")
	}
	n[0].Names[0], n[0].Kids[0].Line.Text, n[0].Kids[1].Branches[0].Kids[0].Line.Text = "x", "x", "x"
	if toldBlocks(again, true) != all {
		t.Errorf("two answers lie in one another")
	}
}

// Each line is gone over a fixed number of times, however many there are.
func TestMany(t *testing.T) {
	const many = 1 << 16
	var names strings.Builder
	for i := range many {
		names.WriteString(" n" + strconv.Itoa(i))
	}
	n, f := Build(lines(".for"+names.String()+" in a", ".endfor"))
	if f != (api.Fault{}) || len(n) != 1 || len(n[0].Names) != many {
		t.Errorf("many names: %v", f)
	}
	checkFault(t, api.ErrForm, 1, ".for"+names.String()+" n0 in a")
	texts := []string{".if a"}
	for range many {
		texts = append(texts, ".elif b", "c", ".for i in a", "$i", ".endfor")
	}
	l := lines(append(texts, ".endif")...)
	n, f = Build(l)
	if f != (api.Fault{}) || len(n) != 1 || len(n[0].Branches) != many+1 || len(Flat(n)) != len(l) {
		t.Errorf("many lines: %v", f)
	}
	deep := strings.Repeat("${A:M", many) + "$i" + strings.Repeat("}", many)
	if got := Bind(lines(deep), "i", "a"); got[0].Text != strings.Replace(deep, "$i", "a", 1) {
		t.Errorf("Bind of uses that lie deep within one another")
	}
	open := strings.Repeat("${", many)
	if got := Bind(lines(open+"$i"), "i", "a"); got[0].Text != open+"a" {
		t.Errorf("Bind of many uses that do not end")
	}
}
