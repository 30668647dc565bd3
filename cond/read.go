package cond

import (
	"strings"

	"bobstay/api"
	"bobstay/expand"
)

const (
	blanks   = " \t"
	endsSide = blanks + "=!<>&|()" // what ends a side without quotes
)

// words are those by which a text in brackets is looked up.
var words = [...]string{"defined", "empty", "make", "target", "commands", "exists"}

// signs are those that stand between two sides: ones that begin as another one
// does are asked for ahead of it.
var signs = [...]string{"==", "!=", "<=", ">=", "<", ">"}

// wrong is the fault of a byte that may not stand there.
func wrong(at int) api.Fault { return api.Fault{Why: api.ErrCond, At: at} }

// read is a condition, or the first fault of its form.
func read(s string) (part, api.Fault) {
	if len(s) > api.MaxText {
		return nil, api.Fault{Why: api.ErrMany}
	}
	r := reader{text: s}
	whole, fault := r.condition()
	if fault.Why == api.OK && r.rest() != "" {
		fault = wrong(r.at)
	}
	return whole, fault
}

// reader goes over a condition, from its first byte on.
type reader struct {
	text string
	at   int
	deep int // how many ( and ! of parts are open
}

// rest passes blanks, and is what stands behind them.
func (r *reader) rest() string {
	rest := strings.TrimLeft(r.text[r.at:], blanks)
	r.at = len(r.text) - len(rest)
	return rest
}

// begin passes blanks, and is where a part begins behind them.
func (r *reader) begin() place {
	r.rest()
	return place(r.at)
}

// take passes a text, and tells whether it was there.
func (r *reader) take(s string) bool {
	if !strings.HasPrefix(r.rest(), s) {
		return false
	}
	r.at += len(s)
	return true
}

// condition reads ways.
func (r *reader) condition() (part, api.Fault) {
	at := r.begin()
	parts, fault := r.several("||", r.way)
	return some{at, parts}, fault
}

// way reads parts.
func (r *reader) way() (part, api.Fault) {
	at := r.begin()
	parts, fault := r.several("&&", r.part)
	return all{at, parts}, fault
}

// several reads at least one, with a text between.
func (r *reader) several(between string, one func() (part, api.Fault)) ([]part, api.Fault) {
	var parts []part
	for {
		p, fault := one()
		if fault.Why != api.OK {
			return nil, fault
		}
		parts = append(parts, p)
		if !r.take(between) {
			return parts, api.Fault{}
		}
	}
}

// part reads a part.
func (r *reader) part() (part, api.Fault) {
	at := r.begin()
	switch {
	case r.take("!"):
		return r.within(at, r.negated)
	case r.take("("):
		return r.within(at, r.bracketed)
	}
	return r.test()
}

// within reads what a ( or a ! holds open.
func (r *reader) within(at place, inner func(at place) (part, api.Fault)) (part, api.Fault) {
	if r.deep == api.MaxDeep {
		return nil, api.Fault{Why: api.ErrMany, At: at.begins()}
	}
	r.deep++
	p, fault := inner(at)
	r.deep--
	return p, fault
}

// negated reads the part behind a !.
func (r *reader) negated(at place) (part, api.Fault) {
	p, fault := r.part()
	return not{at, p}, fault
}

// bracketed reads the condition behind a (, and its ).
func (r *reader) bracketed(at place) (part, api.Fault) {
	p, fault := r.condition()
	switch {
	case fault.Why != api.OK || r.take(")"):
		return p, fault
	case r.at == len(r.text):
		return nil, wrong(at.begins())
	}
	return nil, wrong(r.at)
}

// test reads a test.
func (r *reader) test() (part, api.Fault) {
	at := r.begin()
	if word := r.word(); word != "" {
		text, fault := r.enclosed(")")
		return lookup{at, word, strings.Trim(text, blanks)}, fault
	}
	left, fault := r.side()
	if fault.Why != api.OK {
		return nil, fault
	}
	for _, sign := range signs {
		if r.take(sign) {
			right, fault := r.side()
			return comparison{at, sign, left, right}, fault
		}
	}
	return truth{at, left}, api.Fault{}
}

// word passes a test's word, and the blanks behind it: it is one only where a (
// stands next; else it is the beginning of a side.
func (r *reader) word() string {
	for _, word := range words {
		behind, ok := strings.CutPrefix(r.text[r.at:], word)
		if behind = strings.TrimLeft(behind, blanks); ok && strings.HasPrefix(behind, "(") {
			r.at = len(r.text) - len(behind)
			return word
		}
	}
	return ""
}

// side reads a side.
func (r *reader) side() (side, api.Fault) {
	if strings.HasPrefix(r.rest(), `"`) {
		text, fault := r.enclosed(`"`)
		return side{text, true}, fault
	}
	text, fault := r.upTo(endsSide)
	if fault.Why == api.OK && text == "" {
		fault = wrong(r.at)
	}
	return side{text, false}, fault
}

// enclosed reads what stands between the next byte and a closing one.
func (r *reader) enclosed(closing string) (string, api.Fault) {
	opening := r.at
	r.at++
	text, fault := r.upTo(closing)
	if fault.Why != api.OK {
		return "", fault
	}
	if r.at == len(r.text) {
		return "", wrong(opening)
	}
	r.at++
	return text, api.Fault{}
}

// upTo reads all up to one of some bytes that no use takes, or up to the end.
func (r *reader) upTo(ends string) (string, api.Fault) {
	from := r.at
	for r.at < len(r.text) && strings.IndexByte(ends, r.text[r.at]) < 0 {
		size := 1
		if r.text[r.at] == '$' {
			size = expand.Use(r.text[r.at:])
		}
		if size == 0 {
			return "", wrong(r.at)
		}
		r.at += size
	}
	return r.text[from:r.at], api.Fault{}
}
