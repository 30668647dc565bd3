package rx

import "slices"

// The kinds of steps.
const (
	take  = iota // goes over a byte of its set
	first        // stands at the text's beginning
	last         // stands at the text's end
	fork         // goes on at each of two steps
	done         // a match is whole
)

// step is the smallest thing that is done to a text. Steps go over it from the
// end of a match back to its beginning.
type step struct {
	kind int
	set  set
	to   [2]int // how many steps farther a fork goes on
}

// stepsOf are the steps of an expression.
func stepsOf(signs []sign) []step {
	m := maker{signs: signs}
	return append(m.ways(), step{kind: done})
}

// maker is how far the signs are made steps.
type maker struct {
	signs []sign
	at    int
}

// is tells whether a mark comes next, and goes over it.
func (m *maker) is(mark byte) bool {
	if m.at < len(m.signs) && m.signs[m.at].mark == mark {
		m.at++
		return true
	}
	return false
}

func (m *maker) ways() []step {
	all := m.way()
	for m.is('|') {
		all = either(all, m.way())
	}
	return all
}

func (m *maker) way() []step {
	var all []step
	for m.at < len(m.signs) {
		if mark := m.signs[m.at].mark; mark == '|' || mark == ')' {
			break
		}
		// What comes later in the text is gone over first.
		all = append(m.part(), all...)
	}
	return all
}

func (m *maker) part() []step {
	thing := m.thing()
	switch {
	case m.is('*'):
		return maybe(again(thing))
	case m.is('+'):
		return again(thing)
	case m.is('?'):
		return maybe(thing)
	}
	return thing
}

func (m *maker) thing() []step {
	if m.is('(') {
		all := m.ways()
		m.at++ // read has seen to it that a ) is there
		return all
	}
	m.at++
	return []step{m.signs[m.at-1].thing}
}

func forked(one, other int) []step {
	return []step{{kind: fork, to: [2]int{one, other}}}
}

func either(a, b []step) []step {
	behind := len(b) + 1
	return slices.Concat(forked(1, len(a)+2), a, forked(behind, behind), b)
}

func again(a []step) []step {
	return slices.Concat(a, forked(-len(a), 1))
}

func maybe(a []step) []step {
	return slices.Concat(forked(1, len(a)+1), a)
}

// thread is a match that is under way: it has gone back to the place that is
// looked at, and its next step takes a byte.
type thread struct{ step, end int }

// walk goes over a text, from its end back, with all matches at a time.
type walk struct {
	steps   []step
	text    string
	place   int
	seen    []int    // by step, the place at which it was gone to last
	threads []thread // those that end later first
	spare   []thread
	longest int // where the longest match from the place on ends, or -1
}

func newWalk(steps []step, text string) *walk {
	return &walk{steps: steps, text: text, seen: slices.Repeat([]int{-1}, len(steps))}
}

// back goes to a place, from the one behind it, and answers where the longest
// match that begins there ends, or -1.
func (w *walk) back(place int) int {
	w.place, w.longest = place, -1
	before := w.threads
	w.threads = w.spare[:0]
	for _, t := range before {
		if w.steps[t.step].set.has(w.text[place]) {
			w.enter(t.step+1, t.end)
		}
	}
	w.enter(0, place)
	w.spare = before
	return w.longest
}

// enter goes on to a step, and from there to all that need no byte. Of the
// matches that come to one step at one place the first one ends last, so that
// the others need not be gone on with.
func (w *walk) enter(at, end int) {
	if w.seen[at] == w.place {
		return
	}
	w.seen[at] = w.place
	s := &w.steps[at]
	switch s.kind {
	case take:
		w.threads = append(w.threads, thread{at, end})
	case first:
		if w.place == 0 {
			w.enter(at+1, end)
		}
	case last:
		if w.place == len(w.text) {
			w.enter(at+1, end)
		}
	case fork:
		w.enter(at+s.to[0], end)
		w.enter(at+s.to[1], end)
	case done:
		w.longest = end
	}
}
