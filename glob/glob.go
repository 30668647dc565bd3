// Package glob is layer 1: patterns of names: see shared/doc/01-glob.md.
package glob

import "strings"

// special are the bytes by which a pattern is more than a plain text.
const special = `*?[\`

// Match tells whether a pattern is all of a text.
func Match(pattern, s string) bool {
	return read(pattern).matches(s)
}

// Plain tells whether a pattern is a plain text.
func Plain(pattern string) bool {
	return !strings.ContainsAny(pattern, special)
}

// Quote is a pattern of a text alone.
func Quote(s string) string {
	var b strings.Builder
	for i := range len(s) {
		if strings.IndexByte(special, s[i]) >= 0 {
			b.WriteByte('\\')
		}
		b.WriteByte(s[i])
	}
	return b.String()
}

// Filter are those words that match.
func Filter(pattern string, words ...string) []string {
	p := read(pattern)
	var found []string
	for _, w := range words {
		if p.matches(w) {
			found = append(found, w)
		}
	}
	return found
}

// reading is a pattern with the place of its last ], or -1. The place tells
// at once of any [ whether a set begins there: to look for the ] each time
// would cost the length of the pattern at every [ that none closes.
type reading struct {
	text string
	last int
}

func read(pattern string) reading {
	return reading{pattern, strings.LastIndexByte(pattern, ']')}
}

// matches gives each * as few bytes as it can, and the last * that it passed
// one more where it fails. Earlier ones need no second try: what they could
// take more, the last one can take as well, so that the time is bounded by
// the product of the two lengths.
func (r reading) matches(s string) bool {
	at, i := 0, 0
	again, from := -1, 0
	for i < len(s) {
		if at < len(r.text) && r.text[at] == '*' {
			at++
			again, from = at, i
			continue
		}
		if next, ok := r.one(at, s[i]); ok {
			at, i = next, i+1
			continue
		}
		if again < 0 {
			return false
		}
		from++
		at, i = again, from
	}
	return strings.TrimLeft(r.text[at:], "*") == ""
}

// one tells whether the part of the pattern at a place, which is no *, stands
// for a byte, and where the next part begins. At the pattern's end it stands
// for none.
func (r reading) one(at int, c byte) (int, bool) {
	if at == len(r.text) {
		return at, false
	}
	switch r.text[at] {
	case '?':
		return at + 1, true
	case '\\':
		if at+1 < len(r.text) {
			at++
		}
	case '[':
		if first, end, not := r.set(at); end > 0 {
			return end + 1, holds(r.text[first:end], c) != not
		}
	}
	return at + 1, r.text[at] == c
}

// set answers from where to where the members of the set stand that begins
// with the [ at a place, and whether the bytes that are not among them are
// meant. An end of 0 tells that the [ is itself.
func (r reading) set(at int) (first, end int, not bool) {
	first = at + 1
	if first < len(r.text) && (r.text[first] == '!' || r.text[first] == '^') {
		first, not = first+1, true
	}
	if r.last <= first {
		return 0, 0, false
	}
	// A ] that stands first is a member, so the search begins behind it.
	behind := first + 1
	return first, behind + strings.IndexByte(r.text[behind:], ']'), not
}

// holds tells whether a byte is among a set's members. They are read from the
// first one on: the end of one a-b is not the beginning of the next.
func holds(members string, c byte) bool {
	for i := 0; i < len(members); i++ {
		low, high := members[i], members[i]
		if i+2 < len(members) && members[i+1] == '-' {
			high = members[i+2]
			i += 2
		}
		if low <= c && c <= high {
			return true
		}
	}
	return false
}
