package graph

import (
	"slices"
	"strings"

	"bobstay/api"
	"bobstay/rule"
	"bobstay/suff"
)

// wait parts sources, and is none.
const wait = ".WAIT"

// known is what is known of names ahead of the walk, and the links of the chains that
// it has found.
type known struct {
	own     map[string]api.Rule // the rules of a name of its own, all of them together
	recipes map[string][]string // the commands of suffix rules
	marks   map[string]marks
	files   map[string]struct{}
	links   map[string]link
	table   suff.Table
}

// marks are a name's attributes.
type marks struct {
	phony, precious, silent, ignore bool
}

// link is how a name is made of another by a suffix rule.
type link struct {
	from   string
	suffix string // the name of the suffix rule
}

// mainGoal is what is asked for, if no goal is handed in.
func mainGoal(joined []api.Rule) []string {
	for _, r := range joined {
		if r.Targets[0] == ".MAIN" && len(r.Sources) > 0 {
			return []string{r.Sources[0]}
		}
	}
	for _, r := range joined {
		target := r.Targets[0]
		if rule.Class(target) == 0 && (!strings.HasPrefix(target, ".") || strings.Contains(target, "/")) {
			return []string{target}
		}
	}
	return nil
}

// learn finds what rules and files tell of names. The suffixes are asked of the rules
// as they were handed in: when they are joined, it is lost which of them let go of the
// earlier ones.
func learn(l, joined []api.Rule, files []string) *known {
	k := &known{
		own: map[string]api.Rule{}, recipes: map[string][]string{}, marks: map[string]marks{},
		files: map[string]struct{}{}, links: map[string]link{}, table: suff.Of(l...),
	}
	for _, s := range files {
		k.files[s] = struct{}{}
	}
	for _, r := range joined {
		k.add(r)
	}
	for name := range k.recipes {
		delete(k.own, name)
	}
	return k
}

// add adds what a joined rule tells.
func (k *known) add(r api.Rule) {
	target := r.Targets[0]
	k.mark(target, r.Sources)
	if _, already := k.recipes[target]; !already && len(r.Commands) > 0 {
		if _, _, is := rule.Suffixes(target, k.table.Suffixes...); is {
			k.recipes[target] = r.Commands
		}
	}
	if rule.Class(target) != 0 {
		return
	}
	if first, already := k.own[target]; already {
		first.Sources = append(first.Sources, r.Sources...)
		first.Commands = append(first.Commands, r.Commands...)
		r = first
	}
	k.own[target] = r
}

// mark gives the sources of an attribute's rule the attribute.
func (k *known) mark(target string, sources []string) {
	if rule.Class(target) != 1 {
		return
	}
	for _, s := range sources {
		m := k.marks[s]
		switch target {
		case ".PHONY":
			m.phony = true
		case ".PRECIOUS":
			m.precious = true
		case ".SILENT":
			m.silent = true
		case ".IGNORE":
			m.ignore = true
		}
		k.marks[s] = m
	}
}

// node is a name's node, but for what it comes behind; false, if nothing tells how the
// name may be there.
func (k *known) node(name string) (Node, bool) {
	own, is := k.own[name]
	_, file := k.files[name]
	m := k.marks[name]
	n := Node{
		Name: name, Kind: own.Kind, Commands: slices.Clone(own.Commands),
		Phony: m.phony, Precious: m.precious, Silent: m.silent, Ignore: m.ignore,
	}
	sources := slices.DeleteFunc(slices.Clone(own.Sources), func(s string) bool { return s == wait })
	by, implied := k.link(name)
	if implied {
		n.Implied, n.Commands = by.from, slices.Clone(k.recipes[by.suffix])
		sources = append([]string{by.from}, sources...)
	}
	n.Sources = once(sources)
	return n, is || implied || file || m.phony
}

// once are sources, each at its first place.
func once(sources []string) []string {
	var l []string
	met := map[string]struct{}{}
	for _, s := range sources {
		if _, already := met[s]; !already {
			met[s] = struct{}{}
			l = append(l, s)
		}
	}
	return l
}

// link is the step of a chain by which a name is made. A chain that was found earlier
// tells it of all its names, so that no other one is looked for.
func (k *known) link(name string) (link, bool) {
	if _, told := k.links[name]; !told && len(k.own[name].Commands) == 0 && !k.marks[name].phony {
		k.chain(name)
	}
	by, is := k.links[name]
	return by, is
}

// chain finds a name's chain, and keeps its links, but those that are told already.
func (k *known) chain(name string) {
	// Few names can be reached, while very many may be there: so the first one
	// of the former is looked for among the latter.
	l := suff.Reach(k.table, name)
	at := slices.IndexFunc(l, k.there)
	if at < 0 {
		return
	}
	l, _ = suff.Chain(k.table, name, l[at])
	for i := 1; i < len(l); i++ {
		if _, told := k.links[l[i]]; !told {
			k.links[l[i]] = link{l[i-1], k.suffix(l[i-1], l[i])}
		}
	}
}

// there tells whether a chain may begin with a name.
func (k *known) there(name string) bool {
	_, file := k.files[name]
	_, own := k.own[name]
	return file || own
}

// suffix is the name of the suffix rule by which a name is made of another: of the ways
// that do it the first one, by which the search went.
func (k *known) suffix(from, to string) string {
	for _, w := range k.table.Ways {
		if stem, ends := strings.CutSuffix(to, w[1]); ends && stem+w[0] == from {
			return w[0] + w[1]
		}
	}
	return ""
}
