package mods

import (
	"strings"

	"bobstay/api"
	"bobstay/glob"
	"bobstay/path"
)

// longest is how many bytes a word may have in which C looks for something.
const longest = 256

// work is a modifier that words are handed to, one behind the other.
type work struct {
	Mod
	made []string
	size int  // how many bytes all of these have
	over bool // they are too many
	done bool // a place was met
}

// toWord is what is done to each word: nil, if the modifier looks at all words
// at once.
func (w *work) toWord() func(s string) {
	switch w.kind {
	case "M":
		return w.matching
	case "N":
		return w.other
	case "S":
		return w.replaced
	case "C":
		return w.rewritten
	case "T":
		return w.name
	case "H":
		return w.dir
	case "E":
		return w.suffix
	case "R":
		return w.root
	case "tl":
		return w.small
	case "tu":
		return w.large
	case ended:
		return w.endedSo
	}
	return nil
}

// keep adds a word to those that are made.
func (w *work) keep(s string) {
	if w.room(len(s)) {
		w.made = append(w.made, s)
		w.size += len(s)
	}
}

// room tells whether there is room for a word of so many bytes.
func (w *work) room(length int) bool {
	w.over = length > api.MaxText-w.size
	return !w.over
}

func (w *work) matching(s string) {
	if glob.Match(w.a, s) {
		w.keep(s)
	}
}

func (w *work) other(s string) {
	if !glob.Match(w.a, s) {
		w.keep(s)
	}
}

func (w *work) name(s string) { w.keep(path.Name(s)) }

func (w *work) dir(s string) { w.keep(path.Dir(s)) }

func (w *work) suffix(s string) {
	if suffix := path.Suffix(s); suffix != "" {
		w.keep(suffix[1:])
	}
}

func (w *work) root(s string) { w.keep(path.Root(s)) }

func (w *work) small(s string) { w.keep(shifted(s, 'A', 'a')) }

func (w *work) large(s string) { w.keep(shifted(s, 'a', 'A')) }

// shifted puts other letters in place of those of one alphabet, by the first
// ones of both. All other bytes stay, whether they tell runes or not.
func shifted(s string, from, to byte) string {
	told := []byte(s)
	for i, c := range told {
		if from <= c && c < from+26 {
			told[i] = c - from + to
		}
	}
	return string(told)
}

// endedSo is what a=b does.
func (w *work) endedSo(s string) {
	ahead, behind, split := strings.Cut(w.a, "%")
	switch {
	case !split && strings.HasSuffix(s, w.a):
		s = strings.TrimSuffix(s, w.a) + w.b
	case split && encloses(s, ahead, behind):
		s = strings.Replace(w.b, "%", s[len(ahead):len(s)-len(behind)], 1)
	}
	w.keep(s)
}

// encloses tells whether a word begins and ends with two texts that do not lie
// in one another there.
func encloses(s, ahead, behind string) bool {
	return len(s) >= len(ahead)+len(behind) && strings.HasPrefix(s, ahead) && strings.HasSuffix(s, behind)
}

// replaced is what S does.
func (w *work) replaced(s string) {
	at := w.first(s)
	if at < 0 || w.done && w.one {
		w.keep(s)
		return
	}
	w.done = true
	places := 1
	if w.all && w.a != "" && !w.atBegin && !w.atEnd {
		places = strings.Count(s, w.a)
	}
	if w.room(w.length(s, places, places*len(w.a))) {
		by := strings.ReplaceAll(w.b, "&", w.a)
		w.keep(s[:at] + strings.Replace(s[at:], w.a, by, places))
	}
}

// first is where the first place of S in a word begins: -1, if there is none.
func (w *work) first(s string) int {
	switch {
	case w.atBegin && w.atEnd && s != w.a,
		w.atBegin && !strings.HasPrefix(s, w.a),
		w.atEnd && !strings.HasSuffix(s, w.a):
		return -1
	case w.atEnd:
		return len(s) - len(w.a)
	case w.atBegin:
		return 0
	}
	return strings.Index(s, w.a)
}

// rewritten is what C does.
func (w *work) rewritten(s string) {
	if len(s) > longest || w.done && w.one {
		w.keep(s)
		return
	}
	rest := len(w.expr.Replace(s, "", w.all))
	places := len(w.expr.Replace(s, ".", w.all)) - rest
	w.done = places > 0
	if w.room(w.length(s, places, len(s)-rest)) {
		w.keep(w.expr.Replace(s, w.b, w.all))
	}
}

// length is how long a word gets, of which so many bytes stand at so many
// places. It is asked ahead of making the word, which could have more bytes
// than there is memory.
func (w *work) length(s string, places, taken int) int {
	return len(s) - taken + places*w.others + taken*w.marks
}
