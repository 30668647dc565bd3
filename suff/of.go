package suff

import (
	"slices"

	"bobstay/api"
	"bobstay/rule"
)

// Of is the table of rules.
func Of(l ...api.Rule) Table {
	var t Table
	for _, r := range l {
		if len(r.Targets) == 1 && r.Targets[0] == ".SUFFIXES" {
			t.Suffixes = told(t.Suffixes, r.Sources)
		}
	}
	// Ways are asked when all suffixes are known, since a later rule may tell more
	// of them, or let them go.
	for _, r := range l {
		w, is := way(r, t.Suffixes)
		if is && len(t.Ways) < maxWays && !slices.Contains(t.Ways, w) {
			t.Ways = append(t.Ways, w)
		}
	}
	return t
}

// told are the suffixes behind a rule that tells these.
func told(suffixes, sources []string) []string {
	if len(sources) == 0 {
		return nil
	}
	for _, s := range sources {
		if len(suffixes) < maxSuffixes && !slices.Contains(suffixes, s) {
			suffixes = append(suffixes, s)
		}
	}
	return suffixes
}

// way is the way of a suffix rule of two suffixes.
func way(r api.Rule, suffixes []string) ([2]string, bool) {
	if len(r.Commands) == 0 || len(r.Targets) != 1 {
		return [2]string{}, false
	}
	from, to, is := rule.Suffixes(r.Targets[0], suffixes...)
	w := [2]string{from, to}
	// The second one of a suffix alone is empty, and none of the suffixes.
	return w, is && leads(w, suffixes)
}
