package suff

import "strings"

// How far a search goes: the name itself is the first round, and one of the names.
const (
	maxRounds = 7
	maxNames  = 512
)

// step is a name that was come to.
type step struct {
	name  string
	makes int // which name of the search is made of it at once; below 0 for the first one
}

// search goes through what a name of a right table can be made of, up to the first
// name that is wanted.
func search(t Table, name string, wanted map[string]struct{}) []step {
	l := []step{{name, -1}}
	seen := map[string]struct{}{name: {}}
	first := 0 // where the round ahead begins
rounds:
	for range maxRounds - 1 {
		end := len(l)
		for at := first; at < end; at++ {
			for _, w := range t.Ways {
				stem, ends := strings.CutSuffix(l[at].name, w[1])
				if !ends {
					continue
				}
				made := stem + w[0]
				if _, already := seen[made]; already {
					continue
				}
				seen[made] = struct{}{}
				l = append(l, step{made, at})
				if _, found := wanted[made]; found || len(l) == maxNames {
					break rounds
				}
			}
		}
		first = end
	}
	return l
}
