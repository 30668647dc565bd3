package stale

import (
	"strings"

	"bobstay/api"
)

// letters are what the lines of a Meta's text begin with: a command's line, and
// those of each kind of touch, by its number.
const letters = "CRWD"

// Meta is what a run has seen.
type Meta struct {
	Commands []string
	Touches  []api.Touch
}

// Write is its text.
func Write(m Meta) (string, api.Errno) {
	for _, t := range m.Touches {
		if t.Kind < api.Read || t.Kind > api.Erased {
			return "", api.ErrForm
		}
	}
	var text []byte
	for _, c := range m.Commands {
		text = addLine(text, 0, c)
	}
	for _, t := range m.Touches {
		text = addLine(text, t.Kind, t.Path)
	}
	if len(text) > api.MaxText {
		return "", api.ErrMany
	}
	return string(text), api.OK
}

// addLine adds a line of a kind. Behind a text that is too long it adds nothing
// more: that is refused, whatever would follow.
func addLine(text []byte, kind int, s string) []byte {
	if len(text) > api.MaxText {
		return text
	}
	text = append(text, letters[kind], ' ')
	text = append(text, escape(s, '\\', '\n', 'n')...)
	return append(text, '\n')
}

// Parse is what a text tells.
func Parse(s string) (Meta, api.Fault) {
	if len(s) > api.MaxText {
		return Meta{}, api.Fault{Why: api.ErrMany}
	}
	var m Meta
	for at := 1; s != ""; at++ {
		line, rest, ends := strings.Cut(s, "\n")
		kind, text, ok := parseLine(line)
		if !ends || !ok || kind == 0 && len(m.Touches) > 0 {
			return Meta{}, api.Fault{Why: api.ErrForm, At: at}
		}
		if kind == 0 {
			m.Commands = append(m.Commands, text)
		} else {
			m.Touches = append(m.Touches, api.Touch{Kind: kind, Path: text})
		}
		s = rest
	}
	return m, api.Fault{}
}

// parseLine is the kind of a line, which is 0 of a command, and its text.
func parseLine(line string) (int, string, bool) {
	if len(line) < 2 || line[1] != ' ' {
		return 0, "", false
	}
	kind := strings.IndexByte(letters, line[0])
	if kind < 0 {
		return 0, "", false
	}
	text, ok := unescape(line[2:], '\\', '\n', 'n')
	return kind, text, ok
}

// escape is a text without a byte that may not stand in it: the mark and a letter
// stand for that byte, two marks for the mark itself.
func escape(s string, mark, banned, letter byte) string {
	text := make([]byte, 0, len(s))
	for i := range len(s) {
		switch s[i] {
		case mark:
			text = append(text, mark, mark)
		case banned:
			text = append(text, mark, letter)
		default:
			text = append(text, s[i])
		}
	}
	return string(text)
}

// unescape is what escape was handed, or tells that nothing gives this text.
func unescape(s string, mark, banned, letter byte) (string, bool) {
	text := make([]byte, 0, len(s))
	for i := 0; i < len(s); i++ {
		if s[i] != mark {
			text = append(text, s[i])
			continue
		}
		i++
		switch {
		case i < len(s) && s[i] == mark:
			text = append(text, mark)
		case i < len(s) && s[i] == letter:
			text = append(text, banned)
		default:
			return "", false
		}
	}
	return string(text), true
}

// Seen is what of touches tells of files.
func Seen(l []api.Touch) []api.Touch {
	ends := map[string]life{}
	var paths []string
	for _, t := range l {
		e, known := ends[t.Path]
		if !known {
			paths = append(paths, t.Path)
			e.first = t.Kind
		}
		if t.Kind != api.Read {
			e.last = t.Kind
		}
		ends[t.Path] = e
	}
	var seen []api.Touch
	for _, p := range paths {
		if ends[p].first == api.Read {
			seen = append(seen, api.Touch{Kind: api.Read, Path: p})
		}
		if ends[p].last == api.Wrote {
			seen = append(seen, api.Touch{Kind: api.Wrote, Path: p})
		}
	}
	return seen
}

// life is what touches tell of one path.
type life struct {
	first int // the kind of the first touch
	last  int // the kind of the last one that is no Read
}
