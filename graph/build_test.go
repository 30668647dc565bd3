package graph

import (
	"slices"
	"strconv"
	"strings"
	"testing"

	"bobstay/api"
	"bobstay/rule"
)

// parsed are rules of lines, by numbers from 1 on; a line that begins with a byte 9 is
// a command of the rule ahead.
func parsed(t *testing.T, lines ...string) []api.Rule {
	t.Helper()
	var l []api.Rule
	for i, s := range lines {
		if command, is := strings.CutPrefix(s, "\t"); is {
			last := &l[len(l)-1]
			last.Commands = append(last.Commands, command)
			continue
		}
		r, f := rule.Parse(s, i+1)
		if f != (api.Fault{}) {
			t.Fatalf("Parse(%q): %v", s, f)
		}
		l = append(l, r)
	}
	return l
}

// told is a graph's text: its goals, and of each node the name, the kind, the sources,
// each command behind a `;`, the implied source behind a `<`, what it comes behind, each
// behind a `>`, and its attributes.
func told(g Graph) string {
	l := []string{strings.Join(g.Goals, " ")}
	for _, n := range g.Nodes {
		l = append(l, toldNode(n))
	}
	return strings.Join(l, " | ")
}

// toldNode is a node's text.
func toldNode(n Node) string {
	s := n.Name + "/" + strconv.Itoa(n.Kind)
	for _, x := range n.Sources {
		s += " " + x
	}
	for _, x := range n.Commands {
		s += " ;" + x
	}
	if n.Implied != "" {
		s += " <" + n.Implied
	}
	for _, x := range n.After {
		s += " >" + x
	}
	for i, is := range []bool{n.Phony, n.Precious, n.Silent, n.Ignore} {
		if is {
			s += " " + []string{"phony", "precious", "silent", "ignore"}[i]
		}
	}
	return s
}

// checkBuild holds a graph to its text: rules are lines, files and goals words.
func checkBuild(t *testing.T, files, goals, want string, lines ...string) {
	t.Helper()
	g, p := Build(parsed(t, lines...), strings.Fields(files), strings.Fields(goals))
	if p != (Problem{}) || told(g) != want {
		t.Errorf("Build(%q, %q, %q) =\n%s, %v, want\n%s", lines, files, goals, told(g), p, want)
	}
}

// checkProblem holds rules to what is wrong with them.
func checkProblem(t *testing.T, files, goals string, want Problem, lines ...string) {
	t.Helper()
	g, p := Build(parsed(t, lines...), strings.Fields(files), strings.Fields(goals))
	if p != want || len(g.Goals) > 0 || len(g.Nodes) > 0 {
		t.Errorf("Build(%q, %q, %q) =\n%s, %v, want %v", lines, files, goals, told(g), p, want)
	}
}

// P16.1: all names that are come to, each behind its sources.
func TestBuildOrdinary(t *testing.T) {
	checkBuild(t, "a", "", "t | a/0 | t/1 a", "t: a")
	checkBuild(t, "a.c", "", "p | a.c/0 | a.o/0 a.c ;cc <a.c | p/1 a.o", ".SUFFIXES: .c .o", ".c.o:; cc", "p: a.o")
	checkBuild(t, "a b c", "", "t | b/0 | a/0 | c/0 | u/2 a c ;y | t/1 b u c ;x", "t: b u c; x", "u ! a c", "\ty", "v: d")
	// A name is told when all its sources are, and once.
	checkBuild(t, "e", "", "a | e/0 | d/1 e | b/1 d | c/1 d e | a/1 b c d", "a: b c d", "b: d", "c: d e", "d: e")
	checkBuild(t, "x y", "", "a | y/0 | x/0 | a/1 y x", "a: y x")
	checkBuild(t, "x y", "y x a y", "y x a y | y/0 | x/0 | a/1 y x", "a: y x")
	checkBuild(t, "x", "x x", "x x | x/0")
	checkBuild(t, "a x", "", "a | a/1", "a:", "b: c")
	checkBuild(t, "b", "", "a | b/0 | a/1 b ;x ;y ;z", "a: b; x", "\ty", "\tz")
	// Names that no goal needs are not told, and need no file.
	checkBuild(t, "b c", "", "a | b/0 | c/0 | a/1 b c ;x", "a e: b; x", "a: c", "f: a g", "h: h")
	checkBuild(t, "b", "e", "e | b/0 | e/1 b ;x", "a e: b; x", "a: c")
}

// P16.1: layer 13's fault comes ahead of all else.
func TestBuildFault(t *testing.T) {
	checkProblem(t, "", "", Problem{Why: api.ErrRule, At: 2}, "a:; x", "a:; y")
	checkProblem(t, "", "", Problem{Why: api.ErrRule, At: 3}, ".SUFFIXES: .c .o", ".c.o:; x", ".c.o :: y")
	checkProblem(t, "", "", Problem{Why: api.ErrRule, At: 2}, ".PHONY: a", ".PHONY :: b") // there is no goal, either
	checkProblem(t, "", "x", Problem{Why: api.ErrRule, At: 3}, "a: a", "b :: c", "b: c")
	l := []api.Rule{{Targets: []string{"a"}, Kind: api.Double, At: -7}, {Targets: []string{"a"}, Kind: api.Always, At: -8}}
	if g, p := Build(l, nil, nil); p != (Problem{Why: api.ErrRule, At: -8}) || told(g) != "" {
		t.Error(g, p)
	}
}

// P16.1: of no goals that are handed in, what is asked for.
func TestGoals(t *testing.T) {
	for _, c := range []struct{ want, lines string }{
		{"a", "a: x\nb: y"},
		{"a", "a b: x"},
		{"b", ".d: x\nb: y"},
		{"b", ".PHONY: b\n.END: z\n.d .NOPE ..: x\nb: y\nc: z"},
		{"./d", ".d: x\n./d: x\nb: y"},
		{".d/b", ".d .d/b b: x"},
		{"d/.x", "d/.x: x"},
		{"b", "a: x\n.MAIN: b c\nb: y"},
		{"z", "a: x\n.MAIN: z"},
		{".d", "a: x\n.MAIN: .d"},
		{"c", "b: y\n.MAIN:\na: x\n.MAIN: c a\n.MAIN: b\nc: z"},
		{"c", "b: y\n.MAIN::\na: x\n.MAIN:: c a\n.MAIN:: b\nc: z"},
		{"c", "b: y\na .MAIN !\nd .MAIN b ! c a\nc: z"},
		{"b", "b: y\n.MAIN:; a"},
		{"a", ".PATH.a/b: x\n.PATH: y\na: x"}, // not of class 0
		{"a", ".SUFFIXES: .c .o\n.c.o: ; cc\na: x"},
		{".c.o/", ".c.o: x\n.c.o/: x"},
	} {
		l := parsed(t, strings.Split(c.lines, "\n")...)
		files := strings.Fields("w x y z .d")
		g, p := Build(l, files, nil)
		if p != (Problem{}) || !slices.Equal(g.Goals, []string{c.want}) || g.Nodes[len(g.Nodes)-1].Name != c.want {
			t.Errorf("%q: %s, %v, want the goal %s", c.lines, told(g), p, c.want)
		}
		// Those that are handed in come ahead of all these.
		g, p = Build(l, files, []string{"w"})
		if p != (Problem{}) || told(g) != "w | w/0" {
			t.Errorf("%q: %s, %v, want w alone", c.lines, told(g), p)
		}
	}
}

// P16.1: no goal, and goals that no rule makes.
func TestGoalsNone(t *testing.T) {
	none := Problem{Why: api.ErrNone}
	checkProblem(t, "x", "", none)
	checkProblem(t, "x", "", none, ".d: x")
	checkProblem(t, "x", "", none, ".BEGIN: x", ".MAIN:", ".PATH.a/b: x", ".PHONY: x")
	// It is the first source as it stands, and the first target, though it may have
	// no rule of its own.
	checkProblem(t, "x", "", Problem{Why: api.ErrNone, Name: ".WAIT"}, "a: x", ".MAIN: .WAIT a")
	checkProblem(t, "x", "", Problem{Why: api.ErrNone, Name: "co"}, ".SUFFIXES: c o", "co:; cc", "a: x")
	checkProblem(t, "x", "", Problem{Why: api.ErrNone, Name: ".PHONY"}, "a: x", ".MAIN: .PHONY")
	checkProblem(t, "x", "", Problem{Why: api.ErrNone, Name: "y"}, "a: x", ".MAIN: y x")
	checkProblem(t, "x", "x y", Problem{Why: api.ErrNone, Name: "y"}, "a: x")
	g, p := Build([]api.Rule{{Targets: []string{""}}, {Targets: []string{"a"}}}, nil, nil)
	if p != (Problem{}) || told(g) != " | /0" || len(g.Goals) != 1 {
		t.Error(told(g), p)
	}
}

// P16.1: a rule of its own is all rules of a name together.
func TestOwn(t *testing.T) {
	checkBuild(t, "b c", "", "a | b/0 | c/0 | a/1 b c ;x", "a: b", "a: c", "\tx")
	checkBuild(t, "b c", "", "a | b/0 | c/0 | a/1 b c ;x", "a: b; x", "z: c", "a: c")
	checkBuild(t, "b c", "", "a | b/0 | c/0 | a/2 b c ;x", "a: b; x", "a ! c")
	checkBuild(t, "b c", "", "a | c/0 | b/1 c | a/3 c b ;y ;x ;z", "a :: c; y", "b: c", "a :: b; x", "\tz", "a ::")
	checkBuild(t, "b c", "", "a | c/0 | b/3 c ;x ;x | a/3 c b ;x ;y", "a b :: c; x", "a :: b; y", "b :: c; x")
	checkBuild(t, "", "", "a | a/3 ;x", "a ::", "a ::; x")
	// Of odd kinds that no line has, too.
	g, p := Build([]api.Rule{{Targets: []string{"a"}, Kind: 7}, {Targets: []string{"a"}, Kind: -1}}, nil, nil)
	if p != (Problem{}) || told(g) != "a | a/7" {
		t.Error(told(g), p)
	}
	// Special names have none.
	for _, s := range []string{".PHONY", ".ORDER", ".SUFFIXES", ".PATH", ".PATH.c", ".MAIN", ".WAIT", ".BEGIN", ".NOTPARALLEL"} {
		checkProblem(t, "x", s, Problem{Why: api.ErrNone, Name: s}, s+": x; y", "a: x")
		checkBuild(t, s, s, s+" | "+s+"/0", s+": x; y", "a: x")
	}
}

// P16.1: suffix rules' names with commands have no rule of their own.
func TestOwnSuffixRules(t *testing.T) {
	none := Problem{Why: api.ErrNone, Name: ".c.o"}
	suffixes := ".SUFFIXES: .c .o"
	checkProblem(t, "x", ".c.o", none, suffixes, ".c.o: x; cc")
	checkProblem(t, "x", ".c.o", none, ".c.o: x; cc", suffixes)
	checkProblem(t, "x", ".c.o", none, suffixes, ".c.o: x", ".c.o:; cc", ".c.o: x")
	checkProblem(t, "x", ".c.o", none, suffixes, ".c.o :: x", ".c.o ::; cc", ".c.o :: x")
	checkProblem(t, "x", ".c.o", none, suffixes, "a .c.o b: x; cc")
	checkProblem(t, "x", ".c.c", Problem{Why: api.ErrNone, Name: ".c.c"}, suffixes, ".c.c: x; cc") // two alike
	checkProblem(t, "x", ".c", Problem{Why: api.ErrNone, Name: ".c"}, suffixes, ".c: x; cc")       // one alone
	checkProblem(t, "x", "a", none, suffixes, ".c.o:; cc", "a: .c.o")
	checkBuild(t, ".c.o", ".c.o", ".c.o | .c.o/0", suffixes, ".c.o: x; cc")
	// Without commands they are names as others are.
	checkBuild(t, "x", ".c.o", ".c.o | x/0 | .c.o/1 x", suffixes, ".c.o: x")
	checkBuild(t, "x", ".c.o", ".c.o | x/0 | .c.o/3 x", suffixes, ".c.o :: x", ".c.o ::")
	checkBuild(t, "x", ".c", ".c | x/0 | .c/1 x", suffixes, ".c: x")
	// The table is that of the rules as they were handed in.
	checkBuild(t, "x", ".c.o", ".c.o | x/0 | .c.o/1 x ;cc", ".c.o: x; cc")
	checkBuild(t, "x", ".c.o", ".c.o | x/0 | .c.o/1 x ;cc", suffixes, ".SUFFIXES:", ".c.o: x; cc")
	checkBuild(t, "x", ".c.o", ".c.o | x/0 | .c.o/1 x ;cc", suffixes, ".c.o: x; cc", ".SUFFIXES:", ".SUFFIXES: .c")
	checkBuild(t, "x", ".c.o", ".c.o | x/0 | .c.o/1 x ;cc", "a .SUFFIXES: .c .o", ".c.o: x; cc") // not alone
	checkProblem(t, "x", ".c.o", none, suffixes, ".SUFFIXES:", suffixes, ".c.o: x; cc")
}

// P16.1: a name's sources are without .WAIT, each once, at its first place.
func TestSources(t *testing.T) {
	checkBuild(t, "x y z", "a", "a | x/0 | z/0 | y/0 | a/1 x z y", "a: x z", "a: z y x", "a: y")
	checkBuild(t, "x y", "a", "a | x/0 | y/0 | a/1 x y", "a: x x y x y")
	checkBuild(t, "x y", "a", "a | x/0 | y/0 >x | a/1 x y", "a: .WAIT x .WAIT y .WAIT", "a: .WAIT")
	checkBuild(t, "", "a", "a | a/1", "a: .WAIT")
	checkBuild(t, "x y .WAIT", "a", "a | x/0 | a/1 x", "a: .WAIT x")
	g, p := Build([]api.Rule{{Targets: []string{"a"}, Sources: []string{"", "x", ""}}}, []string{"x", ""}, nil)
	if p != (Problem{}) || told(g) != "a | /0 | x/0 | a/0  x" {
		t.Error(told(g), p)
	}
}

// P16.1: attributes.
func TestAttributes(t *testing.T) {
	checkBuild(t, "", "a b c d", "a b c d | a/0 phony | b/1 precious | c/1 silent | d/1 ignore", "b c d:",
		".PHONY: a", ".PRECIOUS: b", ".SILENT: c", ".IGNORE: d", ".NOTMAIN .EXEC .META: a b c d")
	checkBuild(t, "b", "a", "a | b/0 precious silent | a/1 b phony precious silent ignore", "a: b",
		".PHONY .SILENT: x a", ".SILENT .PRECIOUS: b", ".PRECIOUS: b a", ".IGNORE ! a")
	checkBuild(t, "", "a", "a | a/1", "a:", ".PHONY:", ".SILENT:", ".IGNORE:", ".PRECIOUS:; a")
	checkBuild(t, "", "a", "a | a/1 phony", "a:", ".PHONY :: b", ".PHONY :: a a")
	checkBuild(t, "b", "a", "a | b/0 phony | a/1 b ;x", "a: b; x", ".PHONY: b") // a file, and phony
	checkBuild(t, "", "a", "a | .PHONY/0 phony | a/1 .PHONY", "a: .PHONY", ".PHONY: .PHONY")
}

// P16.1: names that need themselves.
func TestProblemLoop(t *testing.T) {
	loop := func(name string) Problem { return Problem{Why: api.ErrLoop, Name: name} }
	checkProblem(t, "", "", loop("a"), "a: a")
	checkProblem(t, "a", "", loop("a"), "a: a; x", ".PHONY: a")
	checkProblem(t, "", "", loop("a"), "a: b", "b: c", "c: a")
	checkProblem(t, "", "", loop("b"), "a: b", "b: c", "c: b a")
	checkProblem(t, "", "", loop("a"), "a: b", "b: c", "c: a b")
	checkProblem(t, "", "c", loop("c"), "a: b", "b: c", "c: a b")
	checkProblem(t, "d", "", loop("b"), "a: d b", "b: d .WAIT b")
	checkProblem(t, "x.c", "", loop("x.o"), ".SUFFIXES: .c .o", ".c.o:; cc", "x.o: x.c", "x.c: x.o")
	// One name that two need is no loop.
	checkBuild(t, "d", "", "a | d/0 | b/1 d | c/1 b d | a/1 b c d", "a: b c d b", "b: d", "c: b d")
}

// P16.1: names that nothing makes.
func TestProblemNone(t *testing.T) {
	none := func(name string) Problem { return Problem{Why: api.ErrNone, Name: name} }
	checkProblem(t, "", "", none("x"), "a: x")
	checkProblem(t, "x", "", none("y"), "a: b x", "b: x y z")
	checkProblem(t, "A a/ ./a aa", "a", none("a"))
	checkProblem(t, "", "", none("x.o"), ".SUFFIXES: .c .o", ".c.o:; cc", "a: x.o")
	checkProblem(t, "x.c", "", none("x.o"), ".SUFFIXES: .c .o", ".c.o:", "a: x.o") // no commands, no way
	// A rule without commands and sources makes a name; so do a file, and the
	// attribute phony, but no other one.
	checkBuild(t, "", "", "a | x/1 | a/1 x", "a: x", "x:")
	checkBuild(t, "x", "", "a | x/0 | a/1 x", "a: x")
	checkBuild(t, "", "", "a | x/0 phony | a/1 x", "a: x", ".PHONY: x")
	checkProblem(t, "", "", none("x"), "a: x", ".PRECIOUS .SILENT .IGNORE .META: x")
}

// P16.1: the 513th name that is come to.
func TestProblemMany(t *testing.T) {
	many := func(name string) Problem { return Problem{Why: api.ErrMany, Name: name} }
	files := make([]string, 600)
	for i := range files {
		files[i] = "f" + strconv.Itoa(i)
	}
	row := func(n int) string { return strings.Join(files[:n], " ") }
	g, p := Build(parsed(t, "a: "+row(511)), files, nil)
	if p != (Problem{}) || len(g.Nodes) != 512 || g.Nodes[511].Name != "a" {
		t.Error(len(g.Nodes), p)
	}
	checkProblem(t, row(600), "", many("f511"), "a: "+row(512))
	checkProblem(t, row(600), "", many("f511"), "a: "+row(600))
	checkProblem(t, row(600), row(600), many("f512"))
	checkProblem(t, row(600), "f7 "+row(511)+" a f511", many("f511"), "a: "+row(511))
	g, p = Build(nil, files, append(files[:512:512], files[:512]...))
	if p != (Problem{}) || len(g.Nodes) != 512 || len(g.Goals) != 1024 {
		t.Error(len(g.Nodes), p)
	}
	// Of such a name it is told first that nothing makes it, or that it needs itself.
	checkProblem(t, row(511), "", Problem{Why: api.ErrNone, Name: "f511"}, "a: "+row(600))
	checkProblem(t, row(510), "", Problem{Why: api.ErrNone, Name: "f510"}, "a: "+row(600))
	checkProblem(t, row(600), "", Problem{Why: api.ErrLoop, Name: "a"}, "a: "+row(511)+" a f511")
	checkProblem(t, row(600), "", many("f511"), "a: "+row(512)+" a")
	// Names under way have been come to, too: so a way may not be longer than that.
	var deep []api.Rule
	for i := range 100000 {
		deep = append(deep, api.Rule{Targets: []string{"n" + strconv.Itoa(i)}, Kind: api.Single, Sources: []string{"n" + strconv.Itoa(i+1)}})
	}
	if g, p := Build(deep, nil, nil); p != many("n512") || told(g) != "" {
		t.Error(len(g.Nodes), p)
	}
	if g, p := Build(deep[99488:], []string{"n100000"}, []string{"n99489"}); p != (Problem{}) || len(g.Nodes) != 512 || g.Nodes[0].Name != "n100000" {
		t.Error(len(g.Nodes), p)
	}
}

// P16.1: the first problem that is met is told.
func TestProblemFirst(t *testing.T) {
	checkProblem(t, "", "", Problem{Why: api.ErrLoop, Name: "b"}, "a: b c", "b: b")
	checkProblem(t, "", "", Problem{Why: api.ErrNone, Name: "c"}, "a: c b", "b: b")
	checkProblem(t, "", "", Problem{Why: api.ErrNone, Name: "d"}, "a: b c", "b: d b")
	checkProblem(t, "", "x a", Problem{Why: api.ErrNone, Name: "x"}, "a: a")
	checkProblem(t, "", "a x", Problem{Why: api.ErrLoop, Name: "a"}, "a: a")
	// A loop over what comes behind others is told behind all these.
	checkProblem(t, "b c", "", Problem{Why: api.ErrNone, Name: "d"}, "a: b .WAIT c d", ".ORDER: c b")
	checkProblem(t, "b c", "", Problem{Why: api.ErrLoop, Name: "d"}, "a: b .WAIT c d", ".ORDER: c b", "d: d")
	checkProblem(t, "b c d", "", Problem{Why: api.ErrLoop, Name: "b"}, "a: b .WAIT c d", ".ORDER: c b")
}
