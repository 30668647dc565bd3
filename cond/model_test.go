package cond

import (
	"math/rand"
	"strings"
	"testing"

	"bobstay/api"
	"bobstay/expand"
)

// What the model of a form waits for.
const (
	aPart   = iota // a part, from its beginning on
	aSign          // behind a side: perhaps a sign
	aSide          // behind a sign
	nothing        // behind a part that is whole
)

// model finds the first fault of a form without calls within one another: a list
// has what is open.
type model struct {
	text string
	at   int
	open []int // the places of ( ; -1 of a !
	wait int
	fail bool
	why  api.Fault
}

func (m *model) wrong(why api.Errno, at int) {
	m.fail, m.why = true, api.Fault{Why: why, At: at}
}

// bytes passes all up to one of some bytes.
func (m *model) bytes(ends string) {
	for !m.fail && m.at < len(m.text) && !strings.Contains(ends, m.text[m.at:m.at+1]) {
		if m.text[m.at] != '$' {
			m.at++
		} else if n := expand.Use(m.text[m.at:]); n > 0 {
			m.at += n
		} else {
			m.wrong(api.ErrCond, m.at)
		}
	}
}

// closed passes what is between the next byte and another one.
func (m *model) closed(by string) {
	from := m.at
	m.at++
	m.bytes(by)
	if !m.fail && m.at == len(m.text) {
		m.wrong(api.ErrCond, from)
	}
	m.at++
}

// side passes a side.
func (m *model) side() {
	from := m.at
	if m.text[m.at] == '"' {
		m.closed(`"`)
		return
	}
	m.bytes(" \t=!<>&|()")
	if !m.fail && m.at == from {
		m.wrong(api.ErrCond, from)
	}
}

// whole ends a part, and each ! that waits for it.
func (m *model) whole() {
	for len(m.open) > 0 && m.open[len(m.open)-1] < 0 {
		m.open = m.open[:len(m.open)-1]
	}
	m.wait = nothing
}

// push opens a ( or a !.
func (m *model) push(place int) {
	if len(m.open) == 32 {
		m.wrong(api.ErrMany, m.at)
	}
	m.open = append(m.open, place)
	m.at++
}

// begin passes what a part begins with.
func (m *model) begin() {
	switch m.text[m.at] {
	case '!':
		m.push(-1)
		return
	case '(':
		m.push(m.at)
		return
	}
	for _, word := range []string{"defined", "empty", "make", "target", "commands", "exists"} {
		behind := strings.TrimLeft(strings.TrimPrefix(m.text[m.at:], word), " \t")
		if strings.HasPrefix(m.text[m.at:], word) && strings.HasPrefix(behind, "(") {
			m.at = len(m.text) - len(behind)
			m.closed(")")
			m.whole()
			return
		}
	}
	m.side()
	m.wait = aSign
}

// next passes what is behind a whole part.
func (m *model) next() {
	two := m.text[m.at:min(m.at+2, len(m.text))]
	switch {
	case two == "&&" || two == "||":
		m.at += 2
		m.wait = aPart
	case two[0] == ')' && len(m.open) > 0:
		m.at++
		m.open = m.open[:len(m.open)-1]
		m.whole()
	default:
		m.wrong(api.ErrCond, m.at)
	}
}

// sign passes a sign, if there is one.
func (m *model) sign() {
	two := m.text[m.at:min(m.at+2, len(m.text))]
	switch {
	case two == "==" || two == "!=" || two == "<=" || two == ">=":
		m.at += 2
		m.wait = aSide
	case two[0] == '<' || two[0] == '>':
		m.at++
		m.wait = aSide
	default:
		m.whole()
	}
}

// form is the first fault of a text's form.
func form(s string) api.Fault {
	m := &model{text: s}
	for {
		for m.at < len(s) && (s[m.at] == ' ' || s[m.at] == '\t') {
			m.at++
		}
		if m.at >= len(s) || m.fail {
			break
		}
		switch m.wait {
		case aPart:
			m.begin()
		case aSign:
			m.sign()
		case aSide:
			m.side()
			m.whole()
		case nothing:
			m.next()
		}
	}
	switch {
	case m.fail:
		return m.why
	case m.wait == aPart || m.wait == aSide:
		return api.Fault{Why: api.ErrCond, At: len(s)}
	}
	m.whole()
	if len(m.open) > 0 {
		return api.Fault{Why: api.ErrCond, At: m.open[len(m.open)-1]}
	}
	return api.Fault{}
}

// P10.1: what the model answers, of texts of pieces that conditions are made of.
func TestFormModel(t *testing.T) {
	r := rand.New(rand.NewSource(10))
	pieces := []string{"a", "1", "a", "a", " ", " ", "\t", "&&", "&&", "||", "||", "&", "|", "!", "!", "(", "(", ")", ")", "==", "!=", "<", ">", "<=", ">=", "=", `"`, `"b"`, `""`, "$A", "${A}", "$(A)", "${", "$(", "}", "$", "$$",
		"defined", "defined(A)", "empty(", "make (", "exists(/)", "target", "commands\t( x )", ":"}
	seen := map[api.Errno]int{}
	for range 300000 {
		var b strings.Builder
		for range r.Intn(9) {
			b.WriteString(pieces[r.Intn(len(pieces))])
		}
		if r.Intn(20) == 0 {
			b.Reset()
			for range 60 + r.Intn(60) {
				b.WriteString([]string{"(", "!", "(", "!", "(", "(a)&&", "(!a||b)||", " "}[r.Intn(8)])
			}
			b.WriteString("a" + strings.Repeat(")", r.Intn(40)))
		}
		s := b.String()
		want := form(s)
		seen[want.Why]++
		if got := Check(s); got != want {
			t.Fatalf("Check(%q) = %v, want %v", s, got, want)
		}
	}
	for _, e := range []api.Errno{api.OK, api.ErrCond, api.ErrMany} {
		if seen[e] < 1000 {
			t.Errorf("%v was answered only %d times", e, seen[e])
		}
	}
}

// leaf is a test, and what it answers in the world of these tests.
type leaf struct {
	text string
	is   bool
	why  api.Errno
}

// tree is a condition: a test, or a sign over kids.
type tree struct {
	leaf
	sign string // "" of a test; else !, && or ||
	kids []*tree
	at   int // where it begins, once it is written
}

// grow is a random tree.
func grow(r *rand.Rand, deep int) *tree {
	leaves := []leaf{
		{"1", true, 0}, {"0", false, 0}, {"$A", true, 0}, {"${Z}", false, 0}, {`"0"`, true, 0}, {`""`, false, 0}, {"$E", false, 0}, {"defined(A)", true, 0}, {"defined (C)", false, 0}, {"empty( E )", true, 0}, {"empty(A:M*)", false, 0},
		{"make(*.o)", true, 0}, {"make(x)", false, 0}, {"target(t)", true, 0}, {"commands(t)", false, 0}, {"exists(d/f)", true, 0}, {"exists(x)", false, 0}, {"${A}==0xa", true, 0}, {`"$A" == 0xa`, false, 0}, {"1 != 01", false, 0},
		{"$A>9", true, 0}, {"10 <= 9", false, 0}, {"a>=a", false, api.ErrCond}, {"$L", false, api.ErrLoop}, {"exists(${O})", false, api.ErrEnd}, {"1 == ${A:Bad}", false, api.ErrMods},
	}
	if deep == 0 || r.Intn(4) == 0 {
		if r.Intn(3) == 0 {
			return &tree{leaf: leaves[r.Intn(len(leaves))]}
		}
		return &tree{leaf: leaves[r.Intn(len(leaves)-4)]}
	}
	if r.Intn(3) == 0 {
		return &tree{sign: "!", kids: []*tree{grow(r, deep-1)}}
	}
	n := &tree{sign: []string{"&&", "||"}[r.Intn(2)]}
	for range 2 + r.Intn(3) {
		n.kids = append(n.kids, grow(r, deep-1))
	}
	return n
}

// write writes a tree; what binds less than what it stands in is in brackets.
func (n *tree) write(r *rand.Rand, b *strings.Builder, within string) {
	blanks := func() { b.WriteString([]string{"", "", " ", "\t", " \t "}[r.Intn(5)]) }
	blanks()
	less := within == "!" && n.sign != "" && n.sign != "!" || within == "&&" && n.sign == "||"
	if less || r.Intn(10) == 0 {
		b.WriteString("(")
		n.write(r, b, "")
		blanks()
		b.WriteString(")")
		return
	}
	switch n.at = b.Len(); n.sign {
	case "":
		b.WriteString(n.text)
	case "!":
		b.WriteString("!")
		n.kids[0].write(r, b, "!")
	default:
		for i, kid := range n.kids {
			if i > 0 {
				blanks()
				b.WriteString(n.sign)
			}
			kid.write(r, b, n.sign)
		}
	}
}

// value is what a written tree answers.
func (n *tree) value() (bool, api.Fault) {
	if n.sign == "" {
		if n.why != api.OK {
			return false, api.Fault{Why: n.why, At: n.at}
		}
		return n.is, api.Fault{}
	}
	for _, kid := range n.kids {
		is, f := kid.value()
		switch {
		case f.Why != api.OK:
			return false, f
		case n.sign == "!":
			return !is, f
		case n.sign == "||" && is:
			return true, f
		case n.sign == "&&" && !is:
			return false, f
		}
	}
	return n.sign == "&&", api.Fault{}
}

// P10.2: what trees answer, whichever way they are written.
func TestTrees(t *testing.T) {
	r := rand.New(rand.NewSource(102))
	w := world(t)
	seen := map[api.Fault]int{}
	for range 50000 {
		n := grow(r, r.Intn(5))
		var b strings.Builder
		n.write(r, &b, "")
		if r.Intn(2) == 0 {
			b.WriteString(" ")
		}
		want, fault := n.value()
		got, f := Holds(b.String(), w)
		if got != want || f != fault {
			t.Fatalf("Holds(%q) = %t, %v, want %t, %v", b.String(), got, f, want, fault)
		}
		seen[api.Fault{Why: f.Why}]++
	}
	for _, e := range []api.Errno{api.OK, api.ErrCond, api.ErrLoop, api.ErrEnd, api.ErrMods} {
		if seen[api.Fault{Why: e}] < 500 {
			t.Errorf("%v was answered only %d times", e, seen[api.Fault{Why: e}])
		}
	}
}

// P10.3 and P10.4: of two conditions, each by itself, follows what they are
// together.
func TestTogether(t *testing.T) {
	r := rand.New(rand.NewSource(103))
	w := world(t)
	written := func() string {
		var b strings.Builder
		grow(r, r.Intn(4)).write(r, &b, "")
		return b.String()
	}
	for range 20000 {
		a, b := written(), written()
		first, fault := Holds(a, w)
		second, behind := Holds(b, w)
		fault.At += min(1, int(fault.Why))
		behind.At += min(1, int(behind.Why)) * len("("+a+") && (")
		together(t, w, "("+a+") && ("+b+")", first, fault, first, second, behind)
		together(t, w, "("+a+") || ("+b+")", first, fault, !first, second, behind)
		fault.At += min(1, int(fault.Why))
		together(t, w, "!("+a+")", !first && fault.Why == api.OK, fault, false, false, api.Fault{})
	}
}

// together holds a condition to its first part's answer, or, if more is asked, to
// its second one's.
func together(t *testing.T, w World, s string, first bool, fault api.Fault, more, second bool, behind api.Fault) {
	t.Helper()
	want, why := first, fault
	if more && fault.Why == api.OK {
		want, why = second, behind
	}
	if is, f := Holds(s, w); is != want || f != why {
		t.Fatalf("Holds(%q) = %t, %v, want %t, %v", s, is, f, want, why)
	}
}
