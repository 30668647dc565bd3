package loop

import (
	"strings"

	"bobstay/api"
	"bobstay/line"
)

// builder has the blocks of the lines that have been read so far.
type builder struct {
	done []Node
	open []Node // the innermost one last; where it lies it is put when it closes
}

// reader is how a line with a directive's word (none, if it is no directive) is
// read.
func (b *builder) reader(word string) func(l line.Line, word, text string) api.Errno {
	switch word {
	case "if", "ifdef", "ifndef", "ifmake", "ifnmake":
		return b.openIf
	case "for":
		return b.openFor
	case "elif", "else":
		return b.part
	case "endif":
		return b.closeIf
	case "endfor":
		return b.closeFor
	}
	return b.plain
}

// plain reads a plain line.
func (b *builder) plain(l line.Line, _, _ string) api.Errno {
	b.add(Node{Kind: plainLine, Line: l})
	return api.OK
}

// openIf reads a line that opens a condition.
func (b *builder) openIf(l line.Line, word, text string) api.Errno {
	first := Branch{Word: word, Text: text, At: l.At}
	return b.begin(Node{Kind: condition, Line: l, Branches: []Branch{first}})
}

// openFor reads a line that opens a loop.
func (b *builder) openFor(l line.Line, _, text string) api.Errno {
	names, list, may := forText(text)
	if !may {
		return api.ErrForm
	}
	return b.begin(Node{Kind: forLoop, Line: l, Names: names, List: list})
}

// part reads a line with which another branch of a condition begins.
func (b *builder) part(l line.Line, word, text string) api.Errno {
	in := b.innermost()
	if in == nil || in.Kind != condition || in.lastBranch().Word == "else" {
		return api.ErrForm
	}
	if word == "else" && text != "" {
		return api.ErrForm
	}
	in.Branches = append(in.Branches, Branch{Word: word, Text: text, At: l.At})
	return api.OK
}

// closeIf reads a line that closes a condition.
func (b *builder) closeIf(_ line.Line, _, text string) api.Errno {
	return b.end(condition, text)
}

// closeFor reads a line that closes a loop.
func (b *builder) closeFor(_ line.Line, _, text string) api.Errno {
	return b.end(forLoop, text)
}

// begin opens a block.
func (b *builder) begin(n Node) api.Errno {
	if len(b.open) == api.MaxDeep {
		return api.ErrMany
	}
	b.open = append(b.open, n)
	return api.OK
}

// end closes the innermost block, which must be of a kind, by a line with a text.
func (b *builder) end(kind int, text string) api.Errno {
	in := b.innermost()
	if in == nil || in.Kind != kind || text != "" {
		return api.ErrForm
	}
	whole := *in
	b.open = b.open[:len(b.open)-1]
	b.add(whole)
	return api.OK
}

// innermost is the innermost block that is open, or nil.
func (b *builder) innermost() *Node {
	if len(b.open) == 0 {
		return nil
	}
	return &b.open[len(b.open)-1]
}

// add puts a block behind those that lie where it does.
func (b *builder) add(n Node) {
	in := b.innermost()
	switch {
	case in == nil:
		b.done = append(b.done, n)
	case in.Kind == condition:
		last := in.lastBranch()
		last.Kids = append(last.Kids, n)
	default:
		in.Kids = append(in.Kids, n)
	}
}

// lastBranch is the last branch of a condition that was opened: it has one.
func (n *Node) lastBranch() *Branch {
	return &n.Branches[len(n.Branches)-1]
}

// forText are the names and the list of a for's text, and whether it may be.
func forText(text string) ([]string, string, bool) {
	var names []string
	seen := map[string]struct{}{}
	for {
		name, behind := line.Word(text)
		if name == "in" {
			return names, behind, len(names) > 0
		}
		if _, again := seen[name]; again || !isName(name) {
			return nil, "", false
		}
		seen[name] = struct{}{}
		names = append(names, name)
		text = behind
	}
}

// isName tells whether a word may be a name of a for.
func isName(s string) bool {
	return s != "" && strings.IndexFunc(s, isNoNameRune) < 0
}

// isNoNameRune tells whether something can't stand in a name of a for.
func isNoNameRune(r rune) bool {
	letter := 'a' <= r && r <= 'z' || 'A' <= r && r <= 'Z'
	return !letter && r != '_' && (r < '0' || '9' < r)
}
