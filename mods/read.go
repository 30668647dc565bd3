package mods

import (
	"strconv"
	"strings"

	"bobstay/api"
	"bobstay/rx"
)

// digits is how many digits a number may have.
const digits = 6

// read is the modifier that a text begins with, and how many bytes it has:
// behind it stands a :, or the text ends.
func read(s string) (Mod, int, api.Errno) {
	switch {
	case strings.HasPrefix(s, "M"), strings.HasPrefix(s, "N"):
		p, length, _ := until(s[1:], ':')
		return Mod{kind: s[:1], a: p}, length + 1, api.OK
	case strings.HasPrefix(s, "S"), strings.HasPrefix(s, "C"):
		if len(s) > 1 && parts(s[1]) {
			return readChange(s)
		}
	case strings.HasPrefix(s, "["):
		return readChoice(s)
	}
	text, length, _ := until(s, ':')
	switch text {
	case "T", "H", "E", "R", "O", "Or", "u", "r", "tl", "tu", "Q":
		return Mod{kind: text}, length, api.OK
	}
	if a, b, ok := strings.Cut(text, "="); ok {
		return Mod{kind: ended, a: a, b: b}, length, api.OK
	}
	return Mod{}, 0, api.ErrMods
}

// until is what stands ahead of the first end, or of the text's end, if there
// is none; an end behind a \ is itself, and the \ goes.
func until(s string, end byte) (text string, length int, found bool) {
	var b strings.Builder
	for i := 0; i < len(s); i++ {
		if s[i] == '\\' && i+1 < len(s) && s[i+1] == end {
			i++
		} else if s[i] == end {
			return b.String(), i, true
		}
		b.WriteByte(s[i])
	}
	return b.String(), len(s), false
}

// parts tells whether a byte may stand between what S or C looks for and what
// that becomes.
func parts(c byte) bool {
	switch {
	case 'a' <= c && c <= 'z', 'A' <= c && c <= 'Z', '0' <= c && c <= '9':
		return false
	}
	return c != ' ' && c != '\t' && c != '\\'
}

// readChange reads a modifier that begins with S or C and the byte that parts
// what is behind it.
func readChange(s string) (Mod, int, api.Errno) {
	m := Mod{kind: s[:1]}
	a, length, ok := until(s[2:], s[1])
	if !ok {
		return Mod{}, 0, api.ErrEnd
	}
	at := 2 + length + 1
	// An expression that may not be is told of ahead of what is missing
	// behind it.
	if !m.lookFor(a) {
		return Mod{}, 0, api.ErrMods
	}
	b, length, ok := until(s[at:], s[1])
	if !ok {
		return Mod{}, 0, api.ErrEnd
	}
	at += length + 1
	m.put(b)
	flags, _, _ := strings.Cut(s[at:], ":")
	if !m.flag(flags) {
		return Mod{}, 0, api.ErrMods
	}
	return m, at + len(flags), api.OK
}

// lookFor takes what S or C looks for, and tells whether it may be.
func (m *Mod) lookFor(a string) bool {
	if m.kind == "C" {
		expr, fault := rx.Compile(a)
		m.expr = expr
		return fault.Why == api.OK
	}
	a, m.atBegin = strings.CutPrefix(a, "^")
	m.a, m.atEnd = strings.CutSuffix(a, "$")
	return true
}

// put takes what S or C puts in its place. What a \ takes in it, it takes for
// C alone.
func (m *Mod) put(b string) {
	m.b = b
	for i := 0; i < len(b); i++ {
		if b[i] == '&' {
			m.marks++
			continue
		}
		if b[i] == '\\' && m.kind == "C" {
			i++
		}
		m.others++
	}
}

// flag takes flags, and tells whether they may be.
func (m *Mod) flag(flags string) bool {
	for i := range len(flags) {
		switch {
		case flags[i] == 'g' && !m.all:
			m.all = true
		case flags[i] == '1' && !m.one:
			m.one = true
		default:
			return false
		}
	}
	return true
}

// readChoice reads a modifier that begins with [.
func readChoice(s string) (Mod, int, api.Errno) {
	x, behind, ok := strings.Cut(s[1:], "]")
	if !ok {
		return Mod{}, 0, api.ErrEnd
	}
	m, ok := choice(x)
	if !ok || behind != "" && behind[0] != ':' {
		return Mod{}, 0, api.ErrMods
	}
	return m, len(x) + 2, api.OK
}

// choice is the modifier of what stands in [ and ].
func choice(x string) (Mod, bool) {
	if x == counted || x == joined {
		return Mod{kind: x}, true
	}
	first, last, two := strings.Cut(x, "..")
	if !two {
		last = first
	}
	from, ok := number(first)
	to, okToo := number(last)
	return Mod{kind: chosen, from: from, to: to}, ok && okToo
}

// number is the number that a text tells.
func number(s string) (int, bool) {
	told := strings.TrimPrefix(s, "-")
	if len(told) > digits || strings.Trim(told, "0123456789") != "" {
		return 0, false
	}
	n, err := strconv.Atoi(s)
	return n, err == nil
}
