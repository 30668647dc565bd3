package sh

import (
	"strings"

	"bobstay/api"
	"bobstay/word"
)

const (
	blanks = " \t"
	// signs are the bytes that no word holds outside of quotes.
	signs = ";&|<>"
)

// command is what stands between the operators of a line.
type command struct {
	ahead   string // the operator ahead of it; none of the first one
	words   []string
	in, out end
}

// end is where a command's input comes from, or its output goes; without a
// sign it is none.
type end struct{ sign, path string }

// due tells whether a command is to be run behind a status.
func (c command) due(status int) bool {
	switch c.ahead {
	case "&&":
		return status == 0
	case "||":
		return status != 0
	}
	return true
}

// token is a word, as it stands in a line, or a sign.
type token struct {
	text string
	sign bool
}

// read are a line's commands.
func read(s string) ([]command, api.Errno) {
	if len(s) > api.MaxText {
		return nil, api.ErrMany
	}
	// That a command has many words is no fault, so that of what layer 4 tells
	// of the line this alone counts.
	if _, e := word.Split(s); e == api.ErrEnd {
		return nil, e
	}
	l := tokens(s)
	if !reach(l) {
		return nil, api.ErrEnd
	}
	if !inForm(l) {
		return nil, api.ErrForm
	}
	return commands(l), api.OK
}

// tokens are the words and the signs of a line that is not open.
func tokens(s string) []token {
	var l []token
	for at := 0; at < len(s); {
		begin := at
		switch {
		case strings.IndexByte(blanks, s[at]) >= 0:
			at++
			continue
		case strings.IndexByte(signs, s[at]) >= 0:
			at += signLength(s[at:])
			l = append(l, token{s[begin:at], true})
		default:
			at = wordEnd(s, at)
			l = append(l, token{s[begin:at], false})
		}
	}
	return l
}

// signLength is how many bytes the sign that a text begins with has.
func signLength(s string) int {
	for _, sign := range [...]string{"&&", "||", ">>"} {
		if strings.HasPrefix(s, sign) {
			return len(sign)
		}
	}
	return 1
}

// wordEnd is the place behind the word that begins at a place.
func wordEnd(s string, at int) int {
	for at < len(s) && strings.IndexByte(blanks+signs, s[at]) < 0 {
		at = behind(s, at)
	}
	return at
}

// behind is the place behind a byte of a word: behind what it takes, or behind
// the quotes that it begins.
func behind(s string, at int) int {
	switch s[at] {
	case '\\':
		return at + 2
	case '\'':
		return at + 2 + strings.IndexByte(s[at+1:], '\'')
	case '"':
		for at++; s[at] != '"'; at++ {
			if s[at] == '\\' {
				at++
			}
		}
	}
	return at + 1
}

// redirects tells whether a token asks for a word behind it.
func redirects(t token) bool {
	return t.sign && (t.text[0] == '<' || t.text[0] == '>')
}

// reach tells whether each redirection has its word behind it.
func reach(l []token) bool {
	for i, t := range l {
		if redirects(t) && (i+1 == len(l) || l[i+1].sign) {
			return false
		}
	}
	return true
}

// inForm tells whether commands and operators stand where they may.
func inForm(l []token) bool {
	empty, last := true, ";"
	for _, t := range l {
		if !t.sign || redirects(t) {
			empty = false
			continue
		}
		if empty || t.text == "&" || t.text == "|" {
			return false
		}
		empty, last = true, t.text
	}
	return !empty || last == ";"
}

// commands are those of tokens that are in form.
func commands(l []token) []command {
	var all []command
	var c command
	begun := false
	for i := 0; i < len(l); i++ {
		t := l[i]
		switch {
		case redirects(t):
			i++
			c.redirect(end{t.text, mean(l[i])})
		case t.sign:
			all = append(all, c)
			c, begun = command{ahead: t.text}, false
			continue
		default:
			c.words = append(c.words, mean(t))
		}
		begun = true
	}
	if begun {
		all = append(all, c)
	}
	return all
}

// redirect turns a command's input, or its output; the last one counts.
func (c *command) redirect(to end) {
	if to.sign == "<" {
		c.in = to
	} else {
		c.out = to
	}
}

// mean is what a word means. No word of a line that is not open is open.
func mean(t token) string {
	s, _ := word.Mean(t.text)
	return s
}
