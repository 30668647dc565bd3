package expand

// span is where a piece of a text stands: from a byte on, up to another one.
type span struct{ from, to int }

// dollar is what begins with a $: a use, or a $ that is itself. Till its end is
// found, to is 0.
type dollar struct {
	span
	name span // empty at 0, where no name can stand, of a $ that is itself
	mods span
}

// ends tells whether its end was found.
func (d dollar) ends() bool { return d.to > 0 }

// isUse tells whether it is a use.
func (d dollar) isUse() bool { return d.name.from > 0 }

// endName ends the name of a use at a byte, if it has not ended yet, and tells
// whether it had not.
func (d *dollar) endName(at int) bool {
	if d.name.to > 0 {
		return false
	}
	d.name.to = at
	return true
}

// end ends a use at its closing bracket.
func (d *dollar) end(at int) {
	if !d.endName(at) {
		d.mods.to = at
	}
	d.to = at + 1
}

// bracket is what a use is in that has not ended yet.
type bracket struct {
	which         int // of those that were found
	opens, closes byte
	deep          int // how many of no use are open in it
}

// scanner goes over a text, and notes what begins with a $.
type scanner struct {
	text  string
	at    int
	found []dollar  // in the order in which they begin
	open  []bracket // the innermost one last
}

// scan is all of a text that begins with a $, in the order in which it begins:
// what is within a use stands right behind it. All texts are gone over once,
// however deep their uses lie within one another.
func scan(s string) []dollar {
	c := scanner{text: s}
	for c.at < len(s) {
		c.step()
	}
	return c.found
}

// step takes the next byte; a $ together with the one behind it, so that a
// bracket or a : there is its own.
func (c *scanner) step() {
	b := c.text[c.at]
	if b == '$' {
		c.begin()
		return
	}
	if len(c.open) > 0 {
		c.inside(b)
	}
	c.at++
}

// begin takes a $ and the byte behind it.
func (c *scanner) begin() {
	from := c.at
	c.at = min(from+2, len(c.text))
	d := dollar{span: span{from, c.at}}
	switch c.text[from+1 : c.at] {
	case "", "$":
	case "{":
		c.hold('{', '}', &d)
	case "(":
		c.hold('(', ')', &d)
	default:
		d.name = d.span
		d.name.from++
	}
	c.found = append(c.found, d)
}

// hold keeps a use open whose name begins here.
func (c *scanner) hold(opens, closes byte, d *dollar) {
	d.to = 0
	d.name.from = c.at
	c.open = append(c.open, bracket{which: len(c.found), opens: opens, closes: closes})
}

// inside takes a byte that stands in a use.
func (c *scanner) inside(b byte) {
	last := len(c.open) - 1
	in := &c.open[last]
	d := &c.found[in.which]
	switch {
	case b == ':' && d.endName(c.at):
		d.mods.from = c.at + 1
	case b == in.opens:
		in.deep++
	case b == in.closes && in.deep > 0:
		in.deep--
	case b == in.closes:
		d.end(c.at)
		c.open = c.open[:last]
	}
}
