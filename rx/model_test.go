package rx

import (
	"slices"
	"strings"

	"bobstay/api"
)

// The model reads an expression by the chapter's grammar, word by word, and
// turns it into what it makes of a set of places: those at which it may end,
// if it begins at one of them.

type places []bool

type moves func(s string, from places) places

type model struct {
	text string
	at   int
	deep int
}

// modelOf is an expression's meaning, or its fault.
func modelOf(s string) (m moves, fault api.Fault) {
	if len(s) > 200 {
		return nil, api.Fault{Why: api.ErrMany}
	}
	defer func() {
		if f, ok := recover().(api.Fault); ok {
			m, fault = nil, f
		}
	}()
	r := &model{text: s}
	m = r.expression()
	if r.at < len(s) {
		r.fail(api.ErrForm, r.at)
	}
	return m, api.Fault{}
}

func (r *model) fail(why api.Errno, at int) { panic(api.Fault{Why: why, At: at}) }

// peek is the next byte, or -1.
func (r *model) peek() int {
	if r.at == len(r.text) {
		return -1
	}
	return int(r.text[r.at])
}

// must is the next byte, without which the text ends too early.
func (r *model) must() byte {
	if r.at == len(r.text) {
		r.fail(api.ErrEnd, len(r.text))
	}
	r.at++
	return r.text[r.at-1]
}

func (r *model) expression() moves {
	ways := []moves{r.way()}
	for r.peek() == '|' {
		r.at++
		ways = append(ways, r.way())
	}
	return func(s string, from places) places {
		to := make(places, len(from))
		for _, w := range ways {
			to = union(to, w(s, from))
		}
		return to
	}
}

func (r *model) way() moves {
	var parts []moves
	for r.peek() >= 0 && r.peek() != '|' && r.peek() != ')' {
		parts = append(parts, r.part())
	}
	return func(s string, from places) places {
		for _, p := range parts {
			from = p(s, from)
		}
		return from
	}
}

func (r *model) part() moves {
	thing := r.thing()
	many := func(s string, from places) places {
		for {
			more := union(from, thing(s, from))
			if slices.Equal(more, from) {
				return more
			}
			from = more
		}
	}
	switch r.peek() {
	case '*':
		r.at++
		return many
	case '+':
		r.at++
		return func(s string, from places) places { return many(s, thing(s, from)) }
	case '?':
		r.at++
		return func(s string, from places) places { return union(from, thing(s, from)) }
	}
	return thing
}

func (r *model) thing() moves {
	switch c := r.must(); c {
	case '*', '+', '?':
		r.fail(api.ErrForm, r.at-1)
	case '(':
		if r.deep++; r.deep > 16 {
			r.fail(api.ErrMany, r.at-1)
		}
		inner := r.expression()
		r.must()
		r.deep--
		return inner
	case '^':
		return only(func(s string, i int) bool { return i == 0 })
	case '$':
		return only(func(s string, i int) bool { return i == len(s) })
	case '.':
		return one(func(byte) bool { return true })
	case '[':
		return r.set()
	case '\\':
		taken := r.must()
		return one(func(b byte) bool { return b == taken })
	default:
		return one(func(b byte) bool { return b == c })
	}
	return nil
}

func (r *model) set() moves {
	not := r.peek() == '^'
	if not {
		r.at++
	}
	var in [256]bool
	for i := 0; ; i++ {
		c := r.must()
		if c == ']' && i > 0 {
			break
		}
		high := c
		if rest := r.text[r.at:]; strings.HasPrefix(rest, "-") && rest != "-" && !strings.HasPrefix(rest, "-]") {
			if high = rest[1]; high < c {
				r.fail(api.ErrForm, r.at)
			}
			r.at += 2
		}
		for b := int(c); b <= int(high); b++ {
			in[b] = true
		}
	}
	return one(func(b byte) bool { return in[b] != not })
}

func union(a, b places) places {
	to := make(places, len(a))
	for i := range to {
		to[i] = a[i] || b[i]
	}
	return to
}

// only stays at the places that hold.
func only(holds func(s string, i int) bool) moves {
	return func(s string, from places) places {
		to := make(places, len(from))
		for i := range from {
			to[i] = from[i] && holds(s, i)
		}
		return to
	}
}

// one goes over a byte.
func one(holds func(b byte) bool) moves {
	return func(s string, from places) places {
		to := make(places, len(from))
		for i := range len(s) {
			to[i+1] = from[i] && holds(s[i])
		}
		return to
	}
}

// ends are the places at which a match that begins at a place may end.
func (m moves) ends(s string, begin int) places {
	from := make(places, len(s)+1)
	from[begin] = true
	return m(s, from)
}

func (m moves) find(s string, from int) (int, int, bool) {
	for i := from; i >= 0 && i <= len(s); i++ {
		ends := m.ends(s, i)
		for k := len(s); k >= i; k-- {
			if ends[k] {
				return i, k, true
			}
		}
	}
	return 0, 0, false
}

func (m moves) is(s string) bool { return m.ends(s, 0)[len(s)] }

func (m moves) replace(s, by string, all bool) string {
	told, from, out := 0, 0, ""
	for {
		i, k, ok := m.find(s, from)
		if !ok {
			return out + s[told:]
		}
		out += s[told:i] + modelFill(by, s[i:k])
		told, from = k, k
		if i == k {
			from = k + 1
		}
		if !all {
			return out + s[told:]
		}
	}
}

func modelFill(by, match string) string {
	switch {
	case by == "" || by == `\`:
		return by
	case by[0] == '\\':
		return by[1:2] + modelFill(by[2:], match)
	case by[0] == '&':
		return match + modelFill(by[1:], match)
	}
	return by[:1] + modelFill(by[1:], match)
}
