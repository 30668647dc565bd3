package loop

import "bobstay/line"

// flattened has the lines of blocks. What is handed in may lie within itself, so
// each of its methods is told how many blocks may yet be open in one another, and
// tells whether that was enough.
type flattened struct {
	lines []line.Line
}

// add adds a line that is no command.
func (f *flattened) add(text string, at int) {
	f.lines = append(f.lines, line.Line{Text: text, At: at})
}

// block adds a block's lines.
func (f *flattened) block(n Node, room int) bool {
	switch n.Kind {
	case plainLine:
		f.lines = append(f.lines, n.Line)
	case condition:
		return room > 0 && f.condition(n, room-1)
	case forLoop:
		return room > 0 && f.loop(n, room-1)
	}
	return true
}

// blocks adds the lines of blocks.
func (f *flattened) blocks(n []Node, room int) bool {
	for _, x := range n {
		if !f.block(x, room) {
			return false
		}
	}
	return true
}

// condition adds a condition's lines.
func (f *flattened) condition(n Node, room int) bool {
	for _, b := range n.Branches {
		text := "." + b.Word
		if b.Text != "" {
			text += " " + b.Text
		}
		f.add(text, b.At)
		if !f.blocks(b.Kids, room) {
			return false
		}
	}
	f.add(".endif", n.Line.At)
	return true
}

// loop adds a loop's lines.
func (f *flattened) loop(n Node, room int) bool {
	f.lines = append(f.lines, n.Line)
	if !f.blocks(n.Kids, room) {
		return false
	}
	f.add(".endfor", n.Line.At)
	return true
}
