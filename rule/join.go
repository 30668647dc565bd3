package rule

import "bobstay/api"

// Join are rules of one target each.
func Join(l ...api.Rule) ([]api.Rule, api.Fault) {
	j := joined{place: map[string]int{}}
	for _, r := range l {
		// All of a rule's targets are asked ahead of adding one, since a rule
		// that has a target twice is no earlier rule to itself.
		if j.clashes(r) {
			return nil, api.Fault{Why: api.ErrRule, At: r.At}
		}
		for _, target := range r.Targets {
			j.add(target, r)
		}
	}
	return j.rules, api.Fault{}
}

// joined has the rules of one target each, as far as they have been joined.
type joined struct {
	rules []api.Rule
	place map[string]int // where the last rule of a target stands
}

// clashes tells whether a rule may not stand behind the earlier ones.
func (j *joined) clashes(r api.Rule) bool {
	for _, target := range r.Targets {
		// One rule tells of all earlier ones: those of a target are all Double,
		// or all added to it.
		if i, there := j.place[target]; there && clash(target, j.rules[i], r) {
			return true
		}
	}
	return false
}

// clash tells whether two rules of a target may not both be.
func clash(target string, earlier, later api.Rule) bool {
	if earlier.Kind == api.Double || later.Kind == api.Double {
		return earlier.Kind != later.Kind
	}
	return len(earlier.Commands) > 0 && len(later.Commands) > 0 && Class(target) == 0
}

// add adds what a rule says of one of its targets.
func (j *joined) add(target string, r api.Rule) {
	i, there := j.place[target]
	if there && r.Kind != api.Double {
		extend(&j.rules[i], r)
		return
	}
	j.place[target] = len(j.rules)
	one := api.Rule{Targets: []string{target}, Kind: r.Kind, At: r.At}
	extend(&one, r)
	j.rules = append(j.rules, one)
}

// extend adds sources and commands to a rule, whose lists become its own.
func extend(to *api.Rule, r api.Rule) {
	to.Sources = append(to.Sources, r.Sources...)
	to.Commands = append(to.Commands, r.Commands...)
	if r.Kind == api.Always {
		to.Kind = api.Always
	}
}
