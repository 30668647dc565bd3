package parse

import (
	"strings"

	"bobstay/api"
	"bobstay/line"
	"bobstay/loop"
	"bobstay/path"
	"bobstay/word"
)

const (
	root   = "/"
	common = "/mk" // where files lie that are included by < and >
	// mostDeep is how many includes may lie within one another.
	mostDeep = 16
)

// The kinds of blocks that are no plain lines.
const (
	condition = 2
	forLoop   = 3
)

// file is a file that is read: what it shares with all others is a part of it.
type file struct {
	*shared
	path string
	deep int // how many includes it lies within
}

// outermost is the file with which reading begins.
func outermost(in Input) *file {
	return &file{shared: &shared{in: in}, path: path.Join(root, in.File)}
}

// problem is a problem at a line of the file; none, if nothing is wrong.
func (f *file) problem(why api.Errno, at int) Problem {
	if why == api.OK {
		return Problem{}
	}
	told := f.path
	if _, _, wrong := f.in.Store.Stat(told); wrong == api.ErrArg {
		told = root
	}
	return Problem{Why: why, File: told, At: at}
}

// read reads the file's text.
func (f *file) read(text string) Problem {
	lines, fault := line.Read(text)
	if fault.Why != api.OK {
		return f.problem(fault.Why, fault.At)
	}
	return f.lines(lines)
}

// lines reads lines.
func (f *file) lines(l []line.Line) Problem {
	blocks, fault := loop.Build(l)
	if fault.Why != api.OK {
		return f.problem(fault.Why, fault.At)
	}
	return f.blocks(blocks)
}

// blocks reads blocks.
func (f *file) blocks(l []loop.Node) Problem {
	for _, b := range l {
		if p := f.block(b); p.Why != api.OK {
			return p
		}
	}
	return Problem{}
}

// block reads a block.
func (f *file) block(b loop.Node) Problem {
	if why := f.step(); why != api.OK {
		return f.problem(why, b.Line.At)
	}
	switch b.Kind {
	case condition:
		return f.condition(b)
	case forLoop:
		return f.rounds(b)
	}
	return f.plain(b.Line)
}

// condition reads the first branch that holds; those behind it are not asked.
func (f *file) condition(b loop.Node) Problem {
	for _, branch := range b.Branches {
		holds, why := f.holds(branch.Word, branch.Text)
		if why != api.OK {
			return f.problem(why, branch.At)
		}
		if holds {
			return f.blocks(branch.Kids)
		}
	}
	return Problem{}
}

// rounds reads the lines of a for, for each round.
func (f *file) rounds(b loop.Node) Problem {
	meaning, why := f.mean(b.List)
	if why != api.OK {
		return f.problem(why, b.Line.At)
	}
	words := word.Fields(meaning)
	rounds, why := loop.Rounds(len(b.Names), len(words))
	if why != api.OK {
		return f.problem(why, b.Line.At)
	}
	l := loop.Flat(b.Kids)
	for range rounds {
		if why := f.step(); why != api.OK {
			return f.problem(why, b.Line.At)
		}
		if p := f.lines(bound(l, b.Names, words)); p.Why != api.OK {
			return p
		}
		words = words[len(b.Names):]
	}
	return Problem{}
}

// bound are lines with each name bound to its word.
func bound(l []line.Line, names, words []string) []line.Line {
	for i, name := range names {
		l = loop.Bind(l, name, words[i])
	}
	return l
}

// plain reads a plain line.
func (f *file) plain(l line.Line) Problem {
	if l.Command {
		return f.problem(f.command(l.Text), l.At)
	}
	if name, operator, value := Gives(l.Text); operator != "" {
		return f.problem(f.give(name, operator, value), l.At)
	}
	if first, text := loop.Directive(l); first != "" && free(l.Text, partsRule) < 0 {
		return f.directive(first, text, l.At)
	}
	return f.problem(f.depend(l.Text, l.At), l.At)
}

// directive does what a plain directive says.
func (f *file) directive(first, text string, at int) Problem {
	why := api.ErrForm
	switch first {
	case "include":
		return f.include(text, at, api.ErrNone)
	case "sinclude":
		return f.include(text, at, api.OK)
	case "undef":
		why = f.undef(text)
	case "error":
		why = api.ErrFail
	}
	return f.problem(why, at)
}

// include reads the file that a text names; none tells what is wrong, if there is
// no such file.
func (f *file) include(text string, at int, none api.Errno) Problem {
	meaning, why := f.mean(text)
	if why != api.OK {
		return f.problem(why, at)
	}
	places := f.places(meaning)
	if len(places) == 0 {
		return f.problem(api.ErrForm, at)
	}
	place, there := f.first(places)
	if !there {
		return f.problem(none, at)
	}
	if f.deep == mostDeep {
		return f.problem(api.ErrLoop, at)
	}
	found, why := f.in.Store.Read(place)
	if why != api.OK {
		return f.problem(why, at)
	}
	inner := file{shared: f.shared, path: place, deep: f.deep + 1}
	return inner.read(found)
}

// places are where a file is looked for that an include's text, as it means,
// names: nowhere, if the text may not be.
func (f *file) places(text string) []string {
	if p, may := between(text, `"`, `"`); may {
		return []string{path.Join(path.Dir(f.path), p), path.Join(root, p)}
	}
	if p, may := between(text, "<", ">"); may {
		return []string{path.Join(common, p)}
	}
	return nil
}

// between is what stands between two others, which are a text's beginning and its
// end, and whether they are.
func between(s, first, last string) (string, bool) {
	behind, begins := strings.CutPrefix(s, first)
	inner, ends := strings.CutSuffix(behind, last)
	return inner, begins && ends
}

// first is the first place at which a file is, and whether there is one. Asking
// makes no note in the store, as reading would.
func (f *file) first(places []string) (string, bool) {
	for _, p := range places {
		if _, dir, why := f.in.Store.Stat(p); why == api.OK && !dir {
			return p, true
		}
	}
	return "", false
}
