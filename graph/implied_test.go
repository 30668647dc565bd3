package graph

import (
	"strconv"
	"testing"

	"bobstay/api"
)

// chained are lines of suffix rules from .y by .c to .o, and others behind them.
func chained(lines ...string) []string {
	return append([]string{".SUFFIXES: .y .c .o", ".y.c: u; yacc", "\tmv", ".c.o:; cc"}, lines...)
}

// P16.1: the implied source is the first one, and its suffix rule gives the commands.
func TestImplied(t *testing.T) {
	checkBuild(t, "x.c", "x.o", "x.o | x.c/0 | x.o/0 x.c ;cc <x.c", chained()...)
	checkBuild(t, "x.y", "x.c", "x.c | x.y/0 | x.c/0 x.y ;yacc ;mv <x.y", chained()...) // u is no source of x.c
	checkBuild(t, "x.c y.c", "x.o y.o", "x.o y.o | x.c/0 | x.o/0 x.c ;cc <x.c | y.c/0 | y.o/0 y.c ;cc <y.c", chained()...)
	checkBuild(t, "d/x.c x.c", "d/x.o", "d/x.o | d/x.c/0 | d/x.o/0 d/x.c ;cc <d/x.c", chained()...)
	// Of a name with a rule the Kind and the sources are the rule's.
	checkBuild(t, "x.c x.h", "", "x.o | x.c/0 | x.h/0 | x.o/2 x.c x.h ;cc <x.c", chained("x.o ! x.h")...)
	checkBuild(t, "x.c x.h", "", "x.o | x.c/0 | x.h/0 | x.o/1 x.c x.h ;cc <x.c", chained("x.o: x.h x.c")...)
	checkBuild(t, "x.c x.h", "", "x.o | x.c/0 | x.h/0 | x.o/3 x.c x.h ;cc <x.c", chained("x.o :: x.h", "x.o ::")...)
	// A file has one, too, and so has what has no other commands.
	checkBuild(t, "x.c x.o", "x.o", "x.o | x.c/0 | x.o/0 x.c ;cc <x.c", chained()...)
	checkBuild(t, "x.c x.y", "x.c", "x.c | x.y/0 | x.c/0 x.y ;yacc ;mv <x.y", chained()...)
	checkBuild(t, "x.c", "x.o", "x.o | x.c/0 | x.o/0 x.c ;cc <x.c precious silent ignore", chained(".PRECIOUS .SILENT .IGNORE: x.o")...)
}

// P16.1: of what gives commands itself, or is phony, there is no implied source.
func TestImpliedNot(t *testing.T) {
	checkBuild(t, "x.c", "", "x.o | x.o/1 ;ld", chained("x.o:; ld")...)
	checkBuild(t, "x.c", "", "x.o | x.c/0 | x.o/1 x.c ;ld", chained("x.o: x.c", "\tld")...)
	checkBuild(t, "x.c", "", "x.o | x.o/3 ;ld", chained("x.o ::", "x.o ::; ld")...)
	checkBuild(t, "x.c", "", "x.o | x.o/1 phony", chained("x.o:", ".PHONY: x.o")...)
	checkBuild(t, "x.c", "x.o", "x.o | x.o/0 phony", chained(".PHONY: x.o")...)
	checkBuild(t, "x.c x.o", "x.o", "x.o | x.o/0 phony", chained(".PHONY: x.o")...)
	// Nothing is there, or no way leads to it.
	checkBuild(t, "y.c c.x x.cc", "", "x.o | x.o/1", chained("x.o:")...)
	checkBuild(t, "x.o", "x.o", "x.o | x.o/0", chained()...) // the name itself makes no chain
	checkBuild(t, "x.o", "x.c x.o", "x.c x.o | x.c/0 phony | x.o/0", chained(".PHONY: x.c")...)
	checkBuild(t, "x.c", "", "x.o | x.o/1", ".SUFFIXES: .c .o", ".c.o: x", "x.o:")        // no commands
	checkBuild(t, "x.c", "", "x.o | x.o/1", ".SUFFIXES: .c .o", ".c.o .z.o:; cc", "x.o:") // two targets
	checkBuild(t, "x.c", "", "x.o | x.o/1", ".SUFFIXES: .o", ".c.o:; cc", "x.o:")
	checkBuild(t, "x.c", "", "x.o | x.o/1", ".SUFFIXES: .c .o", ".c.o:; cc", ".SUFFIXES:", "x.o:")
	checkBuild(t, "x.c", "", "x | x/1", ".SUFFIXES: .c", ".c:; cc", "x:") // one suffix alone is no way
	// A table that is not right has no chains.
	l := append(parsed(t, chained("x.o:")...), api.Rule{Targets: []string{".SUFFIXES"}, Kind: api.Single, Sources: []string{""}})
	if g, p := Build(l, []string{"x.c"}, nil); p != (Problem{}) || told(g) != "x.o | x.o/1" {
		t.Error(told(g), p)
	}
}

// P16.1: the names of a chain between have the one ahead of them as implied sources.
func TestImpliedBetween(t *testing.T) {
	checkBuild(t, "x.y", "x.o", "x.o | x.y/0 | x.c/0 x.y ;yacc ;mv <x.y | x.o/0 x.c ;cc <x.c", chained()...)
	checkBuild(t, "x.y x.h", "", "x.o | x.y/0 | x.c/0 x.y ;yacc ;mv <x.y | x.h/0 | x.o/1 x.c x.h ;cc <x.c", chained("x.o: x.h")...)
	checkBuild(t, "x.y x.c", "x.o", "x.o | x.y/0 | x.c/0 x.y ;yacc ;mv <x.y | x.o/0 x.c ;cc <x.c", chained()...)
	checkBuild(t, "x.y", "x.o", "x.o | x.y/0 | x.c/0 x.y ;yacc ;mv <x.y precious | x.o/0 x.c ;cc <x.c silent", chained(".PRECIOUS: x.c", ".SILENT: x.o")...)
	checkBuild(t, "x.y", "x.o", "x.o | x.y/0 phony | x.c/0 x.y ;yacc ;mv <x.y | x.o/0 x.c ;cc <x.c", chained(".PHONY: x.y")...)
	// Each of them, though it is phony.
	checkBuild(t, "x.y", "x.o", "x.o | x.y/0 | x.c/0 x.y ;yacc ;mv <x.y phony | x.o/0 x.c ;cc <x.c", chained(".PHONY: x.c")...)
	// A chain has 7 names at most.
	lines := []string{".SUFFIXES: .1 .2 .3 .4 .5 .6 .7 .8"}
	for i := 1; i < 8; i++ {
		lines = append(lines, "."+strconv.Itoa(i)+"."+strconv.Itoa(i+1)+":; from "+strconv.Itoa(i))
	}
	checkBuild(t, "x.2", "x.8", "x.8 | x.2/0 | x.3/0 x.2 ;from 2 <x.2 | x.4/0 x.3 ;from 3 <x.3 | x.5/0 x.4 ;from 4 <x.4 |"+
		" x.6/0 x.5 ;from 5 <x.5 | x.7/0 x.6 ;from 6 <x.6 | x.8/0 x.7 ;from 7 <x.7", lines...)
	checkProblem(t, "x.1", "x.8", Problem{Why: api.ErrNone, Name: "x.8"}, lines...)
}

// P16.1: what is there are the files, and all targets with a rule of their own.
func TestImpliedThere(t *testing.T) {
	checkBuild(t, "s", "x.o", "x.o | s/0 | x.c/1 s ;gen | x.o/0 x.c ;cc <x.c", chained("x.c: s; gen")...)
	checkBuild(t, "s", "x.o", "x.o | s/0 | x.c/1 s | x.o/0 x.c ;cc <x.c", chained("x.c: s")...)
	checkBuild(t, "x.y", "x.o", "x.o | x.y/0 | x.c/1 x.y ;yacc ;mv <x.y | x.o/0 x.c ;cc <x.c", chained("x.c:")...)
	checkBuild(t, "x.y", "x.o", "x.o | x.c/1 ;gen | x.o/0 x.c ;cc <x.c", chained("x.c:; gen")...)
	// A name that is phony alone, a source, and a suffix rule's name are not there.
	checkProblem(t, "s", "x.o", Problem{Why: api.ErrNone, Name: "x.o"}, chained("a: x.c", ".PHONY: x.c")...)
	checkProblem(t, "s", "y.co", Problem{Why: api.ErrNone, Name: "y.co"}, ".SUFFIXES: .c .co y", "y.c:; cc", ".c.co:; cco")
	checkBuild(t, "", "y.co", "y.co | y.c/1 | y.co/0 y.c ;cco <y.c", ".SUFFIXES: .c .co y", "y.c:", ".c.co:; cco")
	// The chain begins with the first name of these that is come to.
	checkBuild(t, "x.c x.s", "x.o", "x.o | x.s/0 | x.o/0 x.s ;as <x.s", ".SUFFIXES: .c .s .o", ".s.o:; as", ".c.o:; cc")
	checkBuild(t, "x.c x.s", "x.o", "x.o | x.c/0 | x.o/0 x.c ;cc <x.c", ".SUFFIXES: .c .s .o", ".c.o:; cc", ".s.o:; as")
	checkBuild(t, "x.c", "x.o", "x.o | x.c/0 | x.o/0 x.c ;cc <x.c", ".SUFFIXES: .c .s .o", ".s.o:; as", ".c.o:; cc")
	checkBuild(t, "x.c x.y", "x.o", "x.o | x.c/0 | x.o/0 x.c ;cc <x.c", ".SUFFIXES: .y .s .c .o", ".s.o:; as", ".y.s:; y", ".c.o:; cc")
}

// P16.1: of suffix rules by which a step goes the first one with commands gives them.
func TestImpliedCommands(t *testing.T) {
	checkBuild(t, "x.c", "x.o", "x.o | x.c/0 | x.o/0 x.c ;one ;two <x.c", ".SUFFIXES: .c .o", ".c.o :: u", ".c.o ::; one", "\ttwo", ".c.o ::; three")
	checkBuild(t, "x.c", "x.o", "x.o | x.c/0 | x.o/0 x.c ;one <x.c", ".SUFFIXES: .c .o", ".c.o: u", ".c.o:; one", ".c.o: v")
	checkBuild(t, "ax.c", "ax.o", "ax.o | ax.c/0 | ax.o/0 ax.c ;one <ax.c", ".SUFFIXES: .c .o x.c x.o", "x.cx.o:; one", ".c.o:; two")
	checkBuild(t, "ax.c", "ax.o", "ax.o | ax.c/0 | ax.o/0 ax.c ;two <ax.c", ".SUFFIXES: .c .o x.c x.o", ".c.o:; two", "x.cx.o:; one")
	// Whatever stands ahead without commands.
	checkBuild(t, "ax.c", "ax.o", "ax.o | ax.c/0 | ax.o/0 ax.c ;one <ax.c", ".SUFFIXES: .c .o x.c x.o", ".c.o:", "x.cx.o:; one", ".c.o:; two")
	// An empty command is one.
	l := append(parsed(t, ".SUFFIXES: .c .o"), api.Rule{Targets: []string{".c.o"}, Kind: api.Single, Commands: []string{""}})
	g, p := Build(l, []string{"x.c"}, []string{"x.o"})
	if p != (Problem{}) || told(g) != "x.o | x.c/0 | x.o/0 x.c ; <x.c" {
		t.Error(told(g), p)
	}
}

// P16.1: of several chains to a name the one that is found first tells.
func TestImpliedFirst(t *testing.T) {
	// .o is made of .c, and .c of .o, or of .y.
	lines := []string{".SUFFIXES: .y .c .o", ".c.o:; cc", ".o.c:; dis", ".y.c:; yacc"}
	// By itself x.c would be made of x.o, which is there; but the chain of x.o tells that
	// it is made of x.y.
	checkBuild(t, "x.y x.o", "x.o", "x.o | x.y/0 | x.c/0 x.y ;yacc <x.y | x.o/0 x.c ;cc <x.c", lines...)
	checkBuild(t, "x.y", "", "x.o | x.y/0 | x.c/0 x.y ;yacc <x.y | x.o/1 x.c ;cc <x.c", append(lines, "x.o:")...)
	// The other way round x.c is asked first, and needs itself.
	checkProblem(t, "x.y x.o", "x.c", Problem{Why: api.ErrLoop, Name: "x.c"}, lines...)
	checkProblem(t, "x.y", "x.c", Problem{Why: api.ErrLoop, Name: "x.c"}, append(lines, "x.o:")...)
	checkBuild(t, "x.y x.o", "x.c x.o", "x.c x.o | x.o/1 ;ld | x.c/0 x.o ;dis <x.o", append(lines, "x.o:; ld")...)
	// What was told of a phony name stays, when a chain comes to it later.
	checkBuild(t, "x.y", "x.c x.o", "x.c x.o | x.c/0 phony | x.o/0 x.c ;cc <x.c", chained(".PHONY: x.c")...)
}
