package graph

import (
	"slices"
	"strconv"
	"strings"
	"testing"

	"bobstay/api"
)

// P16.1: names come behind those that stand ahead of a .WAIT.
func TestAfterWait(t *testing.T) {
	checkBuild(t, "a b", "", "t | a/0 | b/0 >a | t/1 a b", "t: a .WAIT b")
	checkBuild(t, "a b c d", "", "t | b/0 | a/0 | d/0 >a >b | c/0 >a >b | t/1 b a d c", "t: b a .WAIT d c")
	checkBuild(t, "a b c", "", "t | c/0 | b/0 >c | a/0 >b >c | t/1 c b a", "t: c .WAIT b .WAIT a")
	checkBuild(t, "a b c", "", "t | a/0 | b/0 | c/0 | t/1 a b c", "t: .WAIT a b c .WAIT .WAIT")
	checkBuild(t, "a b c", "", "t | a/0 | b/0 | c/0 >a >b | t/1 a b c", "t: a b .WAIT .WAIT c")
	// It parts the sources of one rule, as it was handed in.
	checkBuild(t, "a b", "", "t | a/0 | b/0 | t/1 a b", "t: a .WAIT", "t: b")
	checkBuild(t, "a b", "", "t | a/0 | b/0 | t/1 a b", "t: a", "t: .WAIT b")
	checkBuild(t, "a b c", "", "t | a/0 | b/0 >a | c/0 >a | t/1 a b c", "t: a .WAIT b", "t: a .WAIT c", "t: b c")
	// Of any rule with such a target, though this one is not come to.
	checkBuild(t, "a b c", "", "t | a/0 | b/0 >a | t/1 a b", "t: a b", "u: a .WAIT c .WAIT b")
	checkBuild(t, "a b", "", "t | a/0 | b/0 >a | t/1 a b", "t: a b", ".BEGIN u: a .WAIT b")
	checkBuild(t, "a b", "", "t | a/0 | b/0 | t/1 a b", "t: a b", ".BEGIN .MAIN: t .WAIT a .WAIT b")
	checkBuild(t, "a b", "", "t | a/0 | b/0 | t/1 a b", "t: a b", ".SUFFIXES: .c .o", ".c.o: a .WAIT b; cc")
	checkBuild(t, "a b", "", "t | a/0 | b/0 >a | t/1 a b", "t: a b", ".SUFFIXES: .c .o", ".c.o: a .WAIT b")
	checkBuild(t, "a b", "", "t | a/0 | b/0 >a | t/1 a b", "t: a b", ".SUFFIXES: .c .o", ".c.o: a .WAIT b", ".c.o u:; cc", "u: c .WAIT d", ".c.o v: d", "v: a .WAIT b")
	// They stand rising, and of names of the graph alone.
	checkBuild(t, "B a b aa", "", "t | b/0 | aa/0 | B/0 | a/0 >B >aa >b | t/1 b aa B a", "t: b aa B .WAIT a", "x: c .WAIT a b", "y: t .WAIT c")
}

// P16.1: a name that stands in several parts comes behind those ahead of its last one,
// and never behind itself by one rule.
func TestAfterWaitAgain(t *testing.T) {
	checkBuild(t, "a b", "", "t | a/0 | b/0 >a | t/1 a b", "t: a .WAIT b .WAIT b")
	checkBuild(t, "a b", "", "t | a/0 | b/0 >a | t/1 a b", "t: a .WAIT a .WAIT b")
	checkBuild(t, "a b c", "", "t | a/0 >b | b/0 | c/0 >a >b | t/1 a b c", "t: a b .WAIT a c")
	checkProblem(t, "a b", "", Problem{Why: api.ErrLoop, Name: "a"}, "t: a .WAIT b .WAIT a")
	checkProblem(t, "a b", "", Problem{Why: api.ErrLoop, Name: "b"}, "t: b a .WAIT b a")
	checkBuild(t, "a", "", "t | a/0 | t/1 a", "t: a .WAIT a")
}

// P16.1: names come behind the one right ahead of them in an .ORDER rule.
func TestAfterOrder(t *testing.T) {
	checkBuild(t, "a b c", "", "t | a/0 >b | b/0 >c | c/0 | t/1 a b c", "t: a b c", ".ORDER: c b a")
	checkBuild(t, "a b c", "", "t | a/0 | b/0 >a | c/0 >b | t/1 a b c", "t: a b c", ".ORDER: a b", ".ORDER: b c")
	checkBuild(t, "a b c", "", "t | a/0 | b/0 >a | c/0 >a | t/1 a b c", "t: a b c", ".ORDER :: a b", ".ORDER :: a c")
	checkBuild(t, "a b c", "", "t | a/0 | b/0 | c/0 >a >b | t/1 a b c", "t: a b c", ".ORDER: b c", ".ORDER ! a c", ".ORDER: b c")
	// Each by itself, as they were handed in.
	checkBuild(t, "a b c", "", "t | a/0 | b/0 | c/0 | t/1 a b c", "t: a b c", ".ORDER: a", ".ORDER: b", ".ORDER: c")
	checkBuild(t, "a b c", "", "t | a/0 | b/0 >a | c/0 | t/1 a b c", "t: a b c", ".PATH .ORDER: a b", ".MAIN: t c")
	// What is no name of the graph stands between, too.
	checkBuild(t, "a b x", "", "t | a/0 | b/0 | t/1 a b", "t: a b", ".ORDER: a x b x")
	checkBuild(t, "a b x", "", "t | a/0 | b/0 | t/1 a b", "t: a b", ".ORDER: a .WAIT b")
	checkBuild(t, "a b x", "", "t | a/0 | b/0 | t/1 a b", "t: a b", "u: .ORDER a b")
	checkBuild(t, "a b x", "", "t | a/0 | b/0 >a | t/1 a b", "t: a b", ".ORDER: a a b b", ".ORDER:", ".ORDER: x")
	// A target of its own makes it a rule whose .WAIT counts.
	checkBuild(t, "a b x", "", "t | a/0 | b/0 >a | t/1 a b", "t: a b", ".ORDER u: a .WAIT b")
	checkBuild(t, "a b", "", "t | a/0 | b/0 | t/1 a b >b", "t: a b", ".ORDER: b t")
}

// P16.1: at last, the first node that comes behind itself over sources and others.
func TestAfterLoop(t *testing.T) {
	loop := func(name string) Problem { return Problem{Why: api.ErrLoop, Name: name} }
	checkProblem(t, "a b c", "", loop("b"), "t: a b c", ".ORDER: b c", ".ORDER: c b")
	checkProblem(t, "a b c", "", loop("a"), "t: a b c", ".ORDER: c b a c")
	checkProblem(t, "a b c", "", loop("a"), "t: a", ".ORDER: t a")
	checkProblem(t, "a b c", "", loop("b"), "t: a .WAIT b", "a: b")
	checkProblem(t, "a b c", "", loop("c"), "t: a .WAIT b", "a: c", "u: b .WAIT c", "\tx")
	checkProblem(t, "x.c", "", loop("x.c"), ".SUFFIXES: .c .o", ".c.o:; cc", "t: x.o", ".ORDER: x.o x.c")
	// What leads to such a node, or is led to by it, does not come behind itself.
	checkProblem(t, "a b c d e", "", loop("c"), "t: a b c d e", ".ORDER: a b c d", ".ORDER: d c", ".ORDER: d e")
	checkProblem(t, "a b c d e", "", loop("c"), "t: a b c d e", ".ORDER: d c d a", ".ORDER: b a", ".ORDER: d e")
	checkBuild(t, "a b c", "", "t | a/0 >b >c | b/0 >c | c/0 | t/1 a b c", "t: a b c", ".ORDER: c b a", ".ORDER: c a", "t: b c .WAIT a")
	// Names that are not come to make no loop.
	checkBuild(t, "a b", "", "t | a/0 | b/0 >a | t/1 a b", "t: a b", ".ORDER: a b x a", "x: a b")
}

// P16.1: many nodes, each of which comes behind all others ahead of it.
func TestAfterMany(t *testing.T) {
	var files []string
	r := api.Rule{Targets: []string{"t"}, Kind: api.Single}
	for i := range 511 {
		files = append(files, "f"+strconv.Itoa(i))
		r.Sources = append(r.Sources, files[i], ".WAIT")
	}
	for range 1000 {
		r.Sources = append(r.Sources, ".WAIT", "f510", ".WAIT", "else")
	}
	g, p := Build([]api.Rule{r, {Targets: []string{"else"}, Kind: api.Single}}, files, files)
	if p != (Problem{}) || len(g.Nodes) != 511 {
		t.Fatal(len(g.Nodes), p)
	}
	for i, n := range g.Nodes {
		want := slices.Sorted(slices.Values(files[:i]))
		if !slices.Equal(n.After, want) {
			t.Fatalf("%s comes behind %s", n.Name, strings.Join(n.After, " "))
		}
	}
	order := api.Rule{Targets: []string{".ORDER"}, Kind: api.Single, Sources: []string{"f510", "f300"}}
	if g, p := Build([]api.Rule{r, order}, files, files); p != (Problem{Why: api.ErrLoop, Name: "f300"}) || told(g) != "" {
		t.Error(p)
	}
}
