package rx

import (
	"strings"

	"bobstay/api"
)

const (
	maxBytes = 200 // of an expression
	maxOpen  = 16  // brackets that are open at a time

	marks   = "*+?|()"
	repeats = "*+?"
)

// sign is what stands in an expression: one of the marks, or, if there is
// none, a thing that is a step of its own.
type sign struct {
	mark  byte
	thing step
}

// read are an expression's signs. They may stand where they stand, so that
// what goes over them need not ask again.
func read(s string) ([]sign, api.Fault) {
	if len(s) > maxBytes {
		return nil, api.Fault{Why: api.ErrMany}
	}
	r := reader{text: s}
	var signs []sign
	for r.at < len(s) {
		next, fault := r.next()
		if fault.Why != api.OK {
			return nil, fault
		}
		signs = append(signs, next)
	}
	if r.open > 0 {
		return nil, r.missing()
	}
	return signs, api.Fault{}
}

// reader is how far an expression is read.
type reader struct {
	text  string
	at    int
	open  int  // how many brackets are open
	ahead bool // whether a thing that may be repeated stands right ahead
}

func (r *reader) missing() api.Fault {
	return api.Fault{Why: api.ErrEnd, At: len(r.text)}
}

func (r *reader) next() (sign, api.Fault) {
	if c := r.text[r.at]; strings.IndexByte(marks, c) >= 0 {
		return r.mark(c)
	}
	thing, fault := r.thing()
	r.ahead = true
	return sign{thing: thing}, fault
}

func (r *reader) mark(c byte) (sign, api.Fault) {
	switch {
	case strings.IndexByte(repeats, c) >= 0 && !r.ahead, c == ')' && r.open == 0:
		return sign{}, api.Fault{Why: api.ErrForm, At: r.at}
	case c == '(' && r.open == maxOpen:
		return sign{}, api.Fault{Why: api.ErrMany, At: r.at}
	case c == '(':
		r.open++
	case c == ')':
		r.open--
	}
	r.ahead = c == ')'
	r.at++
	return sign{mark: c}, api.Fault{}
}

func (r *reader) thing() (step, api.Fault) {
	c := r.text[r.at]
	r.at++
	switch c {
	case '^':
		return step{kind: first}, api.Fault{}
	case '$':
		return step{kind: last}, api.Fault{}
	case '.':
		return step{kind: take, set: set{}.others()}, api.Fault{}
	case '[':
		return r.bytes()
	case '\\':
		if r.at == len(r.text) {
			return step{}, r.missing()
		}
		c = r.text[r.at]
		r.at++
	}
	return step{kind: take, set: set{}.with(c, c)}, api.Fault{}
}

// bytes reads a set, from behind its [ to behind its ].
func (r *reader) bytes() (step, api.Fault) {
	var in set
	not := strings.HasPrefix(r.text[r.at:], "^")
	if not {
		r.at++
	}
	for begin := r.at; r.at < len(r.text); {
		if r.text[r.at] == ']' && r.at > begin {
			r.at++
			if not {
				in = in.others()
			}
			return step{kind: take, set: in}, api.Fault{}
		}
		low, high, size := member(r.text[r.at:])
		if low > high {
			return step{}, api.Fault{Why: api.ErrForm, At: r.at + 1}
		}
		in = in.with(low, high)
		r.at += size
	}
	return step{}, r.missing()
}

// member is what a set has in it at the beginning of a text, and how long that
// is: a byte, or a range. A - with the set's ] behind it makes none.
func member(s string) (low, high byte, size int) {
	if len(s) > 2 && s[1] == '-' && s[2] != ']' {
		return s[0], s[2], 3
	}
	return s[0], s[0], 1
}

// set has a bit for each byte.
type set [4]uint64

func (s set) with(low, high byte) set {
	for c := int(low); c <= int(high); c++ {
		s[c/64] |= 1 << (c % 64)
	}
	return s
}

func (s set) others() set {
	for i := range s {
		s[i] = ^s[i]
	}
	return s
}

func (s set) has(c byte) bool {
	return s[c/64]&(1<<(c%64)) != 0
}
