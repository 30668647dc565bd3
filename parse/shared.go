package parse

import (
	"strings"

	"bobstay/api"
	"bobstay/cond"
	"bobstay/expand"
	"bobstay/rule"
	"bobstay/vars"
	"bobstay/word"
)

// mostSteps is how many steps may be taken.
const mostSteps = 20000

// shared is what all files share: what they turn and ask, and what has come of
// them so far.
type shared struct {
	in       Input
	steps    int
	rules    []api.Rule
	targets  []string // of all rules
	commands []string // those targets that have commands
}

// step takes a step.
func (s *shared) step() api.Errno {
	if s.steps == mostSteps {
		return api.ErrFuel
	}
	s.steps++
	return api.OK
}

// mean is what a text means: each has all of the fuel.
func (s *shared) mean(text string) (string, api.Errno) {
	meaning, _, why := expand.Text(text, s.in.Vars, s.in.Fuel)
	return meaning, why
}

// command adds a command to the rule of the dependency line last read.
func (s *shared) command(text string) api.Errno {
	if len(s.rules) == 0 {
		return api.ErrRule
	}
	last := &s.rules[len(s.rules)-1]
	if len(last.Commands) == 0 {
		s.commands = append(s.commands, last.Targets...)
	}
	last.Commands = append(last.Commands, text)
	return api.OK
}

// depend adds the rule that a dependency line means.
func (s *shared) depend(text string, at int) api.Errno {
	meaning, why := s.mean(text)
	if why != api.OK {
		return why
	}
	r, fault := rule.Parse(meaning, at)
	if fault.Why != api.OK {
		return fault.Why
	}
	s.rules = append(s.rules, r)
	s.targets = append(s.targets, r.Targets...)
	if len(r.Commands) > 0 {
		s.commands = append(s.commands, r.Targets...)
	}
	return api.OK
}

// give gives the variable that a word means a value, as an operator says.
func (s *shared) give(name, operator, value string) api.Errno {
	name, why := s.mean(name)
	if why != api.OK {
		return why
	}
	switch operator {
	case "+=":
		why = s.in.Vars.Add(vars.Global, name, value)
	case "?=":
		why = s.in.Vars.Default(vars.Global, name, value)
	case ":=":
		why = s.giveMeaning(name, value)
	default:
		why = s.in.Vars.Put(vars.Global, name, value)
	}
	if why == api.ErrArg {
		return api.ErrForm
	}
	return why
}

// giveMeaning gives a variable what a text means.
func (s *shared) giveMeaning(name, text string) api.Errno {
	value, wrong := s.mean(text)
	if wrong == api.OK {
		return s.in.Vars.Put(vars.Global, name, value)
	}
	// That the variable may have no value at all is named ahead of what is
	// wrong with this one; the copy is asked, so that nothing turns.
	if why := s.in.Vars.Copy().Put(vars.Global, name, ""); why != api.OK {
		return why
	}
	return wrong
}

// undef drops the variables whose names a text means.
func (s *shared) undef(text string) api.Errno {
	meaning, why := s.mean(text)
	if why != api.OK {
		return why
	}
	names := word.Fields(meaning)
	if len(names) == 0 {
		return api.ErrForm
	}
	for _, name := range names {
		s.in.Vars.Drop(vars.Global, name)
	}
	return api.OK
}

// holds tells whether a branch with a word and a text is to be read, if none
// ahead of it was.
func (s *shared) holds(by, text string) (bool, api.Errno) {
	switch by {
	case "else":
		return true, api.OK
	case "if", "elif":
		is, fault := cond.Holds(text, s.world())
		return is, fault.Why
	}
	meaning, why := s.mean(text)
	if why != api.OK {
		return false, why
	}
	switch by {
	case "ifdef":
		return s.has(meaning), api.OK
	case "ifndef":
		return !s.has(meaning), api.OK
	case "ifmake":
		return s.makes(meaning), api.OK
	}
	return !s.makes(meaning), api.OK
}

// world is what a condition asks.
func (s *shared) world() cond.World {
	return cond.World{Vars: s.in.Vars, Store: s.in.Store, Goals: s.in.Goals, Targets: s.targets, Commands: s.commands, Fuel: s.in.Fuel}
}

// has tells whether the word that a text is has a value.
func (s *shared) has(text string) bool {
	_, has := s.in.Vars.Get(strings.Trim(text, blanks))
	return has
}

// makes tells whether a goal matches a pattern. Layer 10 asks it, in a world that
// has the pattern as a variable's value: so no byte of it ends the test, and it
// means itself.
func (s *shared) makes(pattern string) bool {
	v := vars.New()
	v.Put(vars.Local, "p", pattern)
	is, _ := cond.Holds("make(${p:U})", cond.World{Vars: v, Goals: s.in.Goals, Fuel: 1})
	return is
}
