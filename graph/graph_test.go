package graph

import (
	"slices"
	"strings"
	"testing"

	"bobstay/api"
)

// P16.2: a name's node.
func TestFind(t *testing.T) {
	g, p := Build(parsed(t, "t: a .WAIT b; x", "a: c", ".PHONY: a"), []string{"b", "c"}, nil)
	if p != (Problem{}) {
		t.Fatal(p)
	}
	for name, want := range map[string]string{"t": "t/1 a b ;x", "a": "a/1 c phony", "b": "b/0 >a", "c": "c/0"} {
		if n, ok := Find(g, name); !ok || toldNode(n) != want {
			t.Errorf("Find %s = %s, %v, want %s", name, toldNode(n), ok, want)
		}
	}
	for _, name := range []string{"", "d", "x", ".WAIT", "t ", ".PHONY"} {
		if n, ok := Find(g, name); ok || !sameNode(n, Node{}) {
			t.Errorf("Find %q = %s, %v", name, toldNode(n), ok)
		}
	}
	if n, ok := Find(Graph{}, ""); ok || !sameNode(n, Node{}) {
		t.Error(n, ok)
	}
	if n, ok := Find(Graph{Nodes: []Node{{Name: "b"}, {Name: "a", Kind: 1}, {Name: "a", Kind: 2}, {}}}, "a"); !ok || n.Kind != 1 {
		t.Error(n, ok)
	}
	if n, ok := Find(Graph{Goals: []string{"a"}, Nodes: []Node{{}}}, ""); !ok || !sameNode(n, Node{}) {
		t.Error(n, ok)
	}
}

// P16.3: local variables.
func TestLocals(t *testing.T) {
	check := func(n Node, newer []string, at, first, all, new, root string) {
		t.Helper()
		want := [][2]string{{"@", at}, {"<", first}, {">", all}, {"?", new}, {"*", root}, {"!", at}}
		if got := Locals(n, newer); !slices.Equal(got, want) {
			t.Errorf("Locals(%s, %q) = %q, want %q", toldNode(n), newer, got, want)
		}
	}
	check(Node{}, nil, "", "", "", "", "")
	check(Node{Name: "t"}, nil, "t", "", "", "", "t")
	check(Node{Name: "x.o", Sources: []string{"x.c", "x.h"}, Implied: "x.c"}, []string{"x.h"}, "x.o", "x.c", "x.c x.h", "x.h", "x")
	check(Node{Name: "x.o", Sources: []string{"a", "x.c", "b"}, Implied: "x.c"}, []string{"b", "a"}, "x.o", "x.c", "a x.c b", "b a", "x")
	check(Node{Name: "x.o", Sources: []string{"b", "a"}}, []string{"c", "c"}, "x.o", "b", "b a", "c c", "x")
	check(Node{Name: "x.o", Implied: "x.c"}, nil, "x.o", "x.c", "", "", "x")
	check(Node{Name: "x.o", Sources: []string{"", "a", "", "b"}}, []string{"", "c", ""}, "x.o", "", "a b", "c", "x")
	check(Node{Name: "x", Commands: []string{"c"}, After: []string{"a"}, Kind: 2}, nil, "x", "", "", "", "x")
	for name, root := range map[string]string{
		"x.o": "x", "x.tar.gz": "x.tar", "d/x.o": "x", "/d.e/x": "x", "d.e/.x": ".x", "d/": "", "/": "", ".o": ".o", "x.": "x",
		"..": ".", ".": ".", "a.b/c.d/e.f": "e", "x.o/": "", "a b.c": "a b",
	} {
		check(Node{Name: name}, nil, name, "", "", "", root)
	}
}

// P16.3: graphs that are the same.
func TestSame(t *testing.T) {
	full := func() Graph {
		return Graph{[]string{"t", "u"}, []Node{
			{Name: "a", After: []string{"b", "c"}},
			{"t", 1, []string{"a", "b"}, []string{"x", "y"}, []string{"a"}, "a", true, true, true, true},
		}}
	}
	if !Same(full(), full()) || !Same(Graph{}, Graph{[]string{}, []Node{}}) {
		t.Error("not the same")
	}
	if !Same(Graph{Nodes: []Node{{Sources: []string{}, Commands: []string{}, After: []string{}}}}, Graph{Nodes: []Node{{}}}) {
		t.Error("nil and empty lists are not the same")
	}
	for i, turn := range []func(g *Graph){
		func(g *Graph) { g.Goals[1] = "x" },
		func(g *Graph) { g.Goals = g.Goals[:1] },
		func(g *Graph) { g.Goals = append(g.Goals, "") },
		func(g *Graph) { slices.Reverse(g.Goals) },
		func(g *Graph) { g.Nodes = g.Nodes[:1] },
		func(g *Graph) { g.Nodes = append(g.Nodes, Node{}) },
		func(g *Graph) { slices.Reverse(g.Nodes) },
		func(g *Graph) { g.Nodes[0].Name = "A" },
		func(g *Graph) { g.Nodes[1].Kind = 2 },
		func(g *Graph) { g.Nodes[1].Sources[0] = "b" },
		func(g *Graph) { slices.Reverse(g.Nodes[1].Sources) },
		func(g *Graph) { g.Nodes[1].Sources = g.Nodes[1].Sources[:1] },
		func(g *Graph) { g.Nodes[1].Commands[1] = "z" },
		func(g *Graph) { g.Nodes[1].Commands = nil },
		func(g *Graph) { slices.Reverse(g.Nodes[0].After) },
		func(g *Graph) { g.Nodes[0].After = nil },
		func(g *Graph) { g.Nodes[1].Implied = "" },
		func(g *Graph) { g.Nodes[1].Phony = false },
		func(g *Graph) { g.Nodes[1].Precious = false },
		func(g *Graph) { g.Nodes[1].Silent = false },
		func(g *Graph) { g.Nodes[1].Ignore = false },
	} {
		g := full()
		turn(&g)
		if Same(g, full()) || Same(full(), g) || !Same(g, g) {
			t.Errorf("turn %d: wrong", i)
		}
	}
}

// roomy is a list with room behind its end.
func roomy(l ...string) []string {
	return append(make([]string, 0, len(l)+8), l...)
}

// lists are all lists of a graph.
func lists(g Graph) [][]string {
	l := [][]string{g.Goals}
	for _, n := range g.Nodes {
		l = append(l, n.Sources, n.Commands, n.After)
	}
	return l
}

// R4: nothing is written into what was handed in; what is answered shares nothing with
// it, or within itself.
func TestOwnMemory(t *testing.T) {
	made := func() ([]api.Rule, []string, []string) {
		return []api.Rule{
			{Targets: roomy(".SUFFIXES"), Kind: api.Single, Sources: roomy(".c", ".o")},
			{Targets: roomy(".c.o"), Kind: api.Single, Commands: roomy("cc", "ld")},
			{Targets: roomy("t", "u"), Kind: api.Double, Sources: roomy("x.o", ".WAIT", "y.o"), Commands: roomy("x")},
			{Targets: roomy("t"), Kind: api.Double, Sources: roomy("z"), Commands: roomy("y")},
			{Targets: roomy("x.o"), Kind: api.Single, Sources: roomy("z")},
			{Targets: roomy(".ORDER"), Kind: api.Single, Sources: roomy("x.c", "y.c", "z")},
		}, roomy("x.c", "y.c", "z"), roomy("u", "t")
	}
	l, files, goals := made()
	g, p := Build(l, files, goals)
	if p != (Problem{}) {
		t.Fatal(p)
	}
	want := told(g)
	l2, files2, goals2 := made()
	given := [][]string{files, goals}
	given2 := [][]string{files2, goals2}
	for i := range l {
		given = append(given, l[i].Targets, l[i].Sources, l[i].Commands)
		given2 = append(given2, l2[i].Targets, l2[i].Sources, l2[i].Commands)
	}
	for i := range given {
		if !slices.Equal(given[i][:cap(given[i])], given2[i][:cap(given2[i])]) {
			t.Errorf("list %d was written into: %q", i, given[i][:cap(given[i])])
		}
		for k := range given[i][:cap(given[i])] {
			given[i][:cap(given[i])][k] = "turned"
		}
	}
	if told(g) != want {
		t.Errorf("the answer turned with what was handed in: %s", told(g))
	}
	for i, list := range lists(g) {
		before := slices.Clone(list)
		for k := range list[:cap(list)] {
			list[:cap(list)][k] = "turned"
		}
		for k, other := range lists(g) {
			if k != i && slices.Contains(other, "turned") {
				t.Fatalf("lists %d and %d share memory", i, k)
			}
		}
		copy(list, before)
	}
	n, _ := Find(g, "t")
	for _, list := range [][]string{n.Sources, n.Commands} {
		list[0] = "turned"
	}
	n, _ = Find(g, "y.c")
	n.After[0] = "turned"
	if told(g) != want {
		t.Errorf("the graph turned with a node that was found: %s", told(g))
	}
}

// R1: odd arguments.
func TestOdd(t *testing.T) {
	for _, l := range [][]api.Rule{nil, {}, {{}}, {{Sources: []string{"a"}}}, {{Targets: []string{".MAIN"}, Sources: nil}}} {
		if g, p := Build(l, nil, nil); p != (Problem{Why: api.ErrNone}) || told(g) != "" {
			t.Error(told(g), p)
		}
		if g, p := Build(l, []string{"", "a", "a"}, []string{"", "a"}); p != (Problem{}) || told(g) != " a | /0 | a/0" {
			t.Error(told(g), p)
		}
	}
	long := strings.Repeat("x", 1<<20)
	l := []api.Rule{{Targets: []string{".SUFFIXES"}, Sources: []string{".c", ".o"}}, {Targets: []string{".c.o"}, Commands: []string{long}}}
	g, p := Build(l, []string{long + ".c"}, []string{long + ".o"})
	if n, ok := Find(g, long+".o"); p != (Problem{}) || !ok || n.Implied != long+".c" || n.Commands[0] != long {
		t.Error("a long name is not made", p)
	}
}
