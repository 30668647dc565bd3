package cond

import (
	"slices"
	"strings"

	"bobstay/api"
	"bobstay/expand"
	"bobstay/glob"
	"bobstay/num"
)

// holds tells whether a part holds, or the first fault of what is asked.
func (w World) holds(p part) (bool, api.Fault) {
	var is bool
	var why api.Errno
	switch p := p.(type) {
	case some:
		return w.until(true, p.parts)
	case all:
		return w.until(false, p.parts)
	case not:
		is, fault := w.holds(p.part)
		return !is && fault.Why == api.OK, fault
	case lookup:
		is, why = w.finds(p.word, p.text)
	case truth:
		is, why = w.isTrue(p.side)
	case comparison:
		is, why = w.compares(p)
	}
	if why != api.OK {
		return false, api.Fault{Why: why, At: p.begins()}
	}
	return is, api.Fault{}
}

// until asks parts up to the first one that answers so; what is behind it is not
// asked.
func (w World) until(so bool, parts []part) (bool, api.Fault) {
	for _, p := range parts {
		is, fault := w.holds(p)
		if fault.Why != api.OK || is == so {
			return is, fault
		}
	}
	return !so, api.Fault{}
}

// mean is what a text means: each has all of the fuel.
func (w World) mean(s string) (string, api.Errno) {
	meaning, _, why := expand.Text(s, w.Vars, w.Fuel)
	return meaning, why
}

// finds tells whether there is what a word asks for.
func (w World) finds(word, text string) (bool, api.Errno) {
	if word == "empty" {
		text = "${" + text + "}"
	}
	x, why := w.mean(text)
	if why != api.OK {
		return false, why
	}
	found := false
	switch word {
	case "defined":
		_, found = w.Vars.Get(x)
	case "empty":
		found = strings.Trim(x, blanks) == ""
	case "make":
		found = len(glob.Filter(x, w.Goals...)) > 0
	case "target":
		found = slices.Contains(w.Targets, x)
	case "commands":
		found = slices.Contains(w.Targets, x) && slices.Contains(w.Commands, x)
	case "exists":
		// Stat makes no note, as reading would.
		_, _, none := w.Store.Stat(x)
		found = none == api.OK
	}
	return found, api.OK
}

// isTrue tells whether a side alone holds.
func (w World) isTrue(s side) (bool, api.Errno) {
	meaning, why := w.mean(s.text)
	if why != api.OK {
		return false, why
	}
	if n, none := num.Parse(meaning); none == api.OK && !s.quoted {
		return n != 0, api.OK
	}
	return meaning != "", api.OK
}

// compares tells whether two sides stand as their sign says. What both mean is
// found ahead of asking whether they are numbers: layer 8's error is the one
// that is named first.
func (w World) compares(c comparison) (bool, api.Errno) {
	left, why := w.mean(c.left.text)
	if why != api.OK {
		return false, why
	}
	right, why := w.mean(c.right.text)
	if why != api.OK {
		return false, why
	}
	order, none := num.Compare(left, right)
	asNumbers := none == api.OK
	if c.sign == "==" || c.sign == "!=" {
		same := left == right
		if asNumbers && !c.left.quoted && !c.right.quoted {
			same = order == 0
		}
		return same == (c.sign == "=="), api.OK
	}
	if !asNumbers {
		return false, api.ErrCond
	}
	return stands(order, c.sign), api.OK
}

// stands tells whether an order is the one of a sign.
func stands(order int, sign string) bool {
	switch sign {
	case "<":
		return order < 0
	case "<=":
		return order <= 0
	case ">":
		return order > 0
	}
	return order >= 0
}
