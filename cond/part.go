package cond

// part is a part of a condition: its type tells what it asks.
type part interface {
	begins() int // the byte at which it begins
}

// place is the byte at which a part begins.
type place int

func (p place) begins() int { return int(p) }

// some holds, if one of its parts does.
type some struct {
	place
	parts []part
}

// all holds, if each of its parts does.
type all struct {
	place
	parts []part
}

// not holds, if its part does not.
type not struct {
	place
	part part
}

// lookup is a test by a word, of a text in brackets.
type lookup struct {
	place
	word, text string
}

// truth is the test of a side alone.
type truth struct {
	place
	side side
}

// comparison is the test of two sides with a sign between.
type comparison struct {
	place
	sign        string
	left, right side
}

// side is a text, as it stands there, that perhaps stood in quotes.
type side struct {
	text   string
	quoted bool
}
