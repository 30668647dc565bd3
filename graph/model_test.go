package graph

import (
	"math/rand"
	"slices"
	"strings"
	"testing"

	"bobstay/api"
	"bobstay/rule"
	"bobstay/suff"
)

// model finds a graph straight from the rules as they were handed in.
type model struct {
	rules []api.Rule
	files []string
	links map[string][2]string
	nodes []Node
	way   []string
}

// of are all rules of a target, one for each place in which it stands there.
func (m *model) of(target string) []api.Rule {
	var l []api.Rule
	for _, r := range m.rules {
		for _, s := range r.Targets {
			if s == target {
				l = append(l, r)
			}
		}
	}
	return l
}

// sourcesOf are all sources of a target.
func (m *model) sourcesOf(target string) []string {
	var l []string
	for _, r := range m.of(target) {
		l = append(l, r.Sources...)
	}
	return l
}

// commandsOf are all commands of a target, or those of its first rule that has some.
func (m *model) commandsOf(target string, first bool) []string {
	var l []string
	for _, r := range m.of(target) {
		if !first || len(l) == 0 || r.Kind != api.Double {
			l = append(l, r.Commands...)
		}
	}
	return l
}

// own tells whether a target has a rule of its own.
func (m *model) own(target string) bool {
	if len(m.of(target)) == 0 || rule.Class(target) != 0 {
		return false
	}
	if len(m.commandsOf(target, false)) == 0 {
		return true
	}
	list := append(suff.Of(m.rules...).Suffixes, "")
	for _, a := range list {
		for _, b := range list {
			if a+b == target && a != "" {
				return false
			}
		}
	}
	return true
}

// goal is what is asked for, if nothing is.
func (m *model) goal() []string {
	if l := m.sourcesOf(".MAIN"); len(l) > 0 {
		return l[:1]
	}
	for _, r := range m.rules {
		for _, s := range r.Targets {
			if rule.Class(s) == 0 && (s == "" || s[0] != '.' || strings.Count(s, "/") > 0) {
				return []string{s}
			}
		}
	}
	return nil
}

// implied is the implied source, and the suffix rule.
func (m *model) implied(name string) [2]string {
	if _, told := m.links[name]; told {
		return m.links[name]
	}
	if m.own(name) && len(m.commandsOf(name, false)) > 0 || slices.Contains(m.sourcesOf(".PHONY"), name) {
		return [2]string{}
	}
	there := slices.Clone(m.files)
	for _, r := range m.rules {
		for _, s := range r.Targets {
			if m.own(s) {
				there = append(there, s)
			}
		}
	}
	table := suff.Of(m.rules...)
	chain, _ := suff.Chain(table, name, there...)
	for i := len(chain) - 1; i > 0; i-- {
		if _, told := m.links[chain[i]]; told {
			continue
		}
		at := slices.IndexFunc(table.Ways, func(w [2]string) bool {
			stem := strings.TrimSuffix(chain[i], w[1])
			return stem+w[1] == chain[i] && stem+w[0] == chain[i-1]
		})
		m.links[chain[i]] = [2]string{chain[i-1], table.Ways[at][0] + table.Ways[at][1]}
	}
	return m.links[name]
}

// node is a name's node.
func (m *model) node(name string) Node {
	n := Node{Name: name}
	var sources []string
	if m.own(name) {
		n.Kind = m.of(name)[0].Kind
		for _, r := range m.of(name) {
			if r.Kind == api.Always {
				n.Kind = api.Always
			}
		}
		n.Commands, sources = m.commandsOf(name, false), m.sourcesOf(name)
	}
	if by := m.implied(name); by[0] != "" {
		n.Implied, n.Commands = by[0], m.commandsOf(by[1], true)
		n.Sources = []string{by[0]}
	}
	for _, s := range sources {
		if s != ".WAIT" && !slices.Contains(n.Sources, s) {
			n.Sources = append(n.Sources, s)
		}
	}
	n.Phony, n.Precious = slices.Contains(m.sourcesOf(".PHONY"), name), slices.Contains(m.sourcesOf(".PRECIOUS"), name)
	n.Silent, n.Ignore = slices.Contains(m.sourcesOf(".SILENT"), name), slices.Contains(m.sourcesOf(".IGNORE"), name)
	return n
}

// index is where a node stands; below 0, if there is none.
func index(nodes []Node, name string) int {
	return slices.IndexFunc(nodes, func(n Node) bool { return n.Name == name })
}

// visit comes to a name.
func (m *model) visit(name string) Problem {
	if index(m.nodes, name) >= 0 {
		return Problem{}
	}
	if slices.Contains(m.way, name) {
		return Problem{Why: api.ErrLoop, Name: name}
	}
	n := m.node(name)
	if !m.own(name) && n.Implied == "" && !slices.Contains(m.files, name) && !n.Phony {
		return Problem{Why: api.ErrNone, Name: name}
	}
	m.way = append(m.way, name)
	for _, s := range n.Sources {
		if p := m.visit(s); p != (Problem{}) {
			return p
		}
	}
	m.way = m.way[:len(m.way)-1]
	m.nodes = append(m.nodes, n)
	return Problem{}
}

// after are the names that a name comes behind, found by all pairs of sources.
func (m *model) after(name string) []string {
	var l []string
	for _, r := range m.rules {
		for i, s := range r.Sources {
			for k, other := range r.Sources[:i] {
				if s != name || other == name || index(m.nodes, other) < 0 {
					continue
				}
				parted := slices.Contains(r.Sources[k:i], ".WAIT") && slices.ContainsFunc(r.Targets, m.own)
				ordered := k == i-1 && slices.Contains(r.Targets, ".ORDER")
				if parted || ordered {
					l = append(l, other)
				}
			}
		}
	}
	slices.Sort(l)
	return slices.Compact(l)
}

// leads tells whether a way leads from a node to a name.
func leads(nodes []Node, from int, name string, met map[int]int) bool {
	if met[from]++; met[from] > 1 {
		return false
	}
	for _, s := range append(slices.Clone(nodes[from].Sources), nodes[from].After...) {
		if s == name || leads(nodes, index(nodes, s), name, met) {
			return true
		}
	}
	return false
}

// modelBuild is the graph of rules of few names.
func modelBuild(l []api.Rule, files, goals []string) (Graph, Problem) {
	if _, f := rule.Join(l...); f != (api.Fault{}) {
		return Graph{}, Problem{Why: f.Why, At: f.At}
	}
	m := model{rules: l, files: files, links: map[string][2]string{}}
	if len(goals) == 0 {
		goals = m.goal()
	}
	if len(goals) == 0 {
		return Graph{}, Problem{Why: api.ErrNone}
	}
	for _, name := range goals {
		if p := m.visit(name); p != (Problem{}) {
			return Graph{}, p
		}
	}
	for i := range m.nodes {
		m.nodes[i].After = m.after(m.nodes[i].Name)
	}
	for i, n := range m.nodes {
		if leads(m.nodes, i, n.Name, map[int]int{}) {
			return Graph{}, Problem{Why: api.ErrLoop, Name: n.Name}
		}
	}
	return Graph{goals, m.nodes}, Problem{}
}

// some are some of these texts.
func some(r *rand.Rand, n int, of ...string) []string {
	var l []string
	for range r.Intn(n + 1) {
		l = append(l, of[r.Intn(len(of))])
	}
	return l
}

// anyRules are rules of few names, with the files.
func anyRules(r *rand.Rand) ([]api.Rule, []string) {
	suffixes := [][]string{{".y", ".c", ".o"}, {".c", ".o", "x.c", "x.o"}, {"c", "o", "cc", "oc"}, {".y", ".c", ".o", ".l", ".s"}}[r.Intn(4)]
	names := []string{"a", "b", "t", "x.o", "x.c", "y.o"}
	for _, s := range suffixes {
		names = append(names, "x"+s)
	}
	files := some(r, len(names)+r.Intn(2)*len(names), names...)
	l := []api.Rule{{Targets: []string{".SUFFIXES"}, Kind: api.Single, Sources: suffixes}}
	for range 1 + r.Intn(7) {
		name := suffixes[r.Intn(len(suffixes))] + suffixes[r.Intn(len(suffixes))]
		if slices.ContainsFunc(l, func(x api.Rule) bool { return x.Targets[0] == name }) && r.Intn(8) > 0 {
			continue
		}
		l = append(l, api.Rule{Targets: []string{name}, Kind: api.Single, Sources: some(r, 1, names...), Commands: some(r, 4, "s "+name, "s2")})
	}
	special := []string{".PHONY", ".PHONY", ".PRECIOUS", ".SILENT", ".IGNORE", ".ORDER", ".ORDER", ".MAIN", ".SUFFIXES", ".BEGIN", ".d", suffixes[0], "d/.e"}
	for range 1 + r.Intn(6) {
		x := api.Rule{Targets: some(r, 2, names...), Kind: api.Single, Sources: some(r, 5, append(names, ".WAIT", ".WAIT", ".WAIT", "f")...)}
		switch {
		case r.Intn(4) == 0:
			x.Targets = some(r, 2, special...)
		case r.Intn(4) == 0:
			x.Commands = some(r, 2, "c1", "c2")
		}
		if r.Intn(20) == 0 {
			x.Kind = 1 + r.Intn(3)
		}
		l = append(l, x)
	}
	if r.Intn(8) == 0 { // Double alone
		for i := range l {
			l[i].Kind = api.Double
		}
	}
	if r.Intn(2) == 0 {
		r.Shuffle(len(l), func(i, k int) { l[i], l[k] = l[k], l[i] })
	}
	for i := range l {
		l[i].At = i + 1
	}
	return l, append(files, some(r, 1, "f")...)
}

// P16.1, and what follows: graphs are as the model finds them.
func TestModel(t *testing.T) {
	r := rand.New(rand.NewSource(16))
	met := map[api.Errno]int{}
	implied, between, after := 0, 0, 0
	for range 80000 {
		l, files := anyRules(r)
		goals := some(r, 3, "a", "t", "x.o", "x.o", "x.c", "y.o", "xo")
		g, p := Build(l, files, goals)
		want, wrong := modelBuild(l, files, goals)
		if p != wrong || told(g) != told(want) || !Same(g, want) {
			t.Fatalf("Build(%v, %q, %q) =\n%s, %v, want\n%s, %v", l, files, goals, told(g), p, told(want), wrong)
		}
		met[p.Why]++
		checkGraph(t, g)
		for _, n := range g.Nodes {
			if n.Implied != "" {
				implied++
				if m, _ := Find(g, n.Implied); m.Implied != "" {
					between++
				}
			}
			after += min(1, len(n.After))
		}
	}
	for _, why := range []api.Errno{api.OK, api.ErrNone, api.ErrLoop, api.ErrRule} {
		if met[why] < 1000 {
			t.Errorf("%v was met %d times", why, met[why])
		}
	}
	if implied < 4000 || between < 1000 || after < 500 {
		t.Errorf("%d implied, %d between, %d behind others", implied, between, after)
	}
}

// checkGraph holds a graph to what follows.
func checkGraph(t *testing.T, g Graph) {
	t.Helper()
	// P16.4: each node stands behind its sources, and has each once.
	for at, n := range g.Nodes {
		for i, s := range n.Sources {
			if place := index(g.Nodes, s); place < 0 || place >= at || slices.Contains(n.Sources[:i], s) {
				t.Errorf("the source %s of %s: %s", s, n.Name, told(g))
			}
		}
		if index(g.Nodes, n.Name) != at {
			t.Errorf("%s is there twice: %s", n.Name, told(g))
		}
		// P16.6: no way leads back.
		if leads(g.Nodes, at, n.Name, map[int]int{}) {
			t.Errorf("%s comes behind itself: %s", n.Name, told(g))
		}
		// P16.5: all nodes are reached from the goals.
		reached := func(goal string) bool {
			return goal == n.Name || needs(g.Nodes, index(g.Nodes, goal), n.Name)
		}
		if !slices.ContainsFunc(g.Goals, reached) {
			t.Errorf("no goal needs %s: %s", n.Name, told(g))
		}
	}
}

// needs tells whether a way over sources alone leads from a node to a name.
func needs(nodes []Node, from int, name string) bool {
	return slices.ContainsFunc(nodes[from].Sources, func(s string) bool {
		return s == name || needs(nodes, index(nodes, s), name)
	})
}
