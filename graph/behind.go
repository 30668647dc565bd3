package graph

import (
	"slices"

	"bobstay/api"
)

// row are nodes, by their places: there are never more of them than it has bits.
type row [api.MaxNodes / 64]uint64

// add adds a node.
func (r *row) add(at int) {
	r[at/64] |= 1 << (at % 64)
}

// has tells whether a node is one of them.
func (r *row) has(at int) bool {
	return r[at/64]>>(at%64)&1 != 0
}

// join adds all nodes of another row.
func (r *row) join(other row) {
	for i, bits := range other {
		r[i] |= bits
	}
}

// names are the nodes' names, rising.
func (r *row) names(nodes []Node) []string {
	var l []string
	for at, n := range nodes {
		if r.has(at) {
			l = append(l, n.Name)
		}
	}
	slices.Sort(l)
	return l
}

// waits are, of each node, those that it comes behind by rules as they were handed in.
func waits(l []api.Rule, k *known, done map[string]int) []row {
	behind := make([]row, len(done))
	own := func(target string) bool {
		_, is := k.own[target]
		return is
	}
	for _, r := range l {
		if slices.ContainsFunc(r.Targets, own) {
			parted(behind, r.Sources, done)
		}
		if slices.Contains(r.Targets, ".ORDER") {
			ordered(behind, r.Sources, done)
		}
	}
	return behind
}

// parted puts sources behind those that stand ahead of a .WAIT, and they behind it.
func parted(behind []row, sources []string, done map[string]int) {
	if !slices.Contains(sources, wait) {
		return
	}
	// A name may stand in several parts: its first one tells what comes behind it,
	// its last one what it comes behind.
	first, last := map[int]int{}, map[int]int{}
	part := 0
	for _, s := range sources {
		if s == wait {
			part++
			continue
		}
		at, is := done[s]
		if !is {
			continue
		}
		if _, met := first[at]; !met {
			first[at] = part
		}
		last[at] = part
	}
	for at, end := range last {
		for other, begin := range first {
			if begin < end && other != at {
				behind[at].add(other)
			}
		}
	}
}

// ordered puts each source behind the one right ahead of it.
func ordered(behind []row, sources []string, done map[string]int) {
	for i := 1; i < len(sources); i++ {
		at, is := done[sources[i]]
		other, both := done[sources[i-1]]
		if is && both && at != other {
			behind[at].add(other)
		}
	}
}

// loop is the first node that comes behind itself over sources and others; below 0, if
// none does.
func loop(nodes []Node, done map[string]int, behind []row) int {
	reach := slices.Clone(behind)
	for at, n := range nodes {
		for _, s := range n.Sources {
			reach[at].add(done[s])
		}
	}
	for by := range reach {
		for at := range reach {
			if reach[at].has(by) {
				reach[at].join(reach[by])
			}
		}
	}
	for at := range reach {
		if reach[at].has(at) {
			return at
		}
	}
	return -1
}
