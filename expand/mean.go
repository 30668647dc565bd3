package expand

import (
	"slices"
	"strings"

	"bobstay/api"
	"bobstay/mods"
	"bobstay/vars"
	"bobstay/word"
)

// work is what finding a text's meaning has to do with. What goes wrong in it
// is told by a panic with the error.
type work struct {
	vars   *vars.Set
	fuel   int
	within []string // the variables whose meanings are being found
}

// burn takes fuel.
func (w *work) burn(n int) {
	if n > w.fuel {
		panic(api.ErrFuel)
	}
	w.fuel -= n
}

// text is what a text means.
func (w *work) text(s string) string {
	r := reading{work: w, text: s, left: scan(s)}
	return r.mean(span{0, len(s)})
}

// reading is a text whose meaning is being found.
type reading struct {
	*work
	text string
	left []dollar // those that have not been met yet
}

// mean is what a piece of the text means. No piece is passed over, so that the
// first one that is left is the next one to be met.
func (r *reading) mean(piece span) string {
	var made strings.Builder
	at := piece.from
	for len(r.left) > 0 && r.left[0].from < piece.to {
		d := r.left[0]
		r.left = r.left[1:]
		add(&made, r.text[at:d.from])
		add(&made, r.dollar(d))
		at = d.to
	}
	add(&made, r.text[at:piece.to])
	return made.String()
}

// add puts a text behind others; that they become too long is told where it
// happens, ahead of all that goes wrong further to the right.
func add(made *strings.Builder, s string) {
	if made.Len()+len(s) > api.MaxText {
		panic(api.ErrMany)
	}
	made.WriteString(s)
}

// dollar is what something means that begins with a $.
func (r *reading) dollar(d dollar) string {
	if !d.ends() {
		panic(api.ErrEnd)
	}
	if !d.isUse() {
		return "$"
	}
	r.burn(1)
	name := r.mean(d.name)
	return r.use(name, r.mean(d.mods))
}

// use is what a use means, by the meanings of its name and its modifiers.
func (w *work) use(name, modifiers string) string {
	value, has := w.vars.Get(name)
	if behind, ok := strings.CutPrefix(modifiers, "D"); ok {
		return either(has, behind, "")
	}
	if behind, ok := strings.CutPrefix(modifiers, "U"); ok {
		return either(has, value, behind)
	}
	meaning := w.variable(name, value)
	if modifiers == "" {
		return meaning
	}
	words, why := mods.All(modifiers, word.Fields(meaning)...)
	if why != api.OK {
		panic(why)
	}
	return word.Join(words...)
}

// either is the first text, if something is so, else the second one.
func either(so bool, first, second string) string {
	if so {
		return first
	}
	return second
}

// variable is a variable's meaning.
func (w *work) variable(name, value string) string {
	if len(w.within) == api.MaxDeep || slices.Contains(w.within, name) {
		panic(api.ErrLoop)
	}
	w.burn(len(value))
	w.within = append(w.within, name)
	meaning := w.text(value)
	w.within = w.within[:len(w.within)-1]
	return meaning
}
