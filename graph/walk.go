package graph

import "bobstay/api"

// walk comes to names from the goals over their sources.
type walk struct {
	known    *known
	underWay map[string]struct{} // come to, while their sources are gone through
	done     map[string]int      // where their nodes stand
	nodes    []Node
}

// visit comes to a name, and so to all its sources ahead of it.
func (w *walk) visit(name string) Problem {
	if _, is := w.done[name]; is {
		return Problem{}
	}
	if _, is := w.underWay[name]; is {
		return Problem{Why: api.ErrLoop, Name: name}
	}
	n, is := w.known.node(name)
	if !is {
		return Problem{Why: api.ErrNone, Name: name}
	}
	// Those under way count, too: they have been come to.
	if len(w.underWay)+len(w.done) == api.MaxNodes {
		return Problem{Why: api.ErrMany, Name: name}
	}
	w.underWay[name] = struct{}{}
	for _, s := range n.Sources {
		if p := w.visit(s); p != (Problem{}) {
			return p
		}
	}
	delete(w.underWay, name)
	w.done[name] = len(w.nodes)
	w.nodes = append(w.nodes, n)
	return Problem{}
}
