package sh

import (
	"math/rand"
	"regexp"
	"slices"
	"strconv"
	"strings"
	"testing"

	"bobstay/api"
	"bobstay/vfs"
	"bobstay/word"
)

// parted finds the words and signs of a line, all others are blanks; a
// quote, or a `\`, that is left stands alone.
var parted = regexp.MustCompile(`(?s)(?:\\.|'[^']*'|"(?:\\.|[^"\\])*"|[^ \t;&|<>'"\\])+|&&|\|\||>>|[;&|<>]|['"\\]`)

// faultOf is what is wrong with a line, found by the words and signs of it,
// which are put into a text of one letter each: w of a word, r of a
// redirection, j of && and ||, s of a `;`, x of what may not be, q of what is open.
func faultOf(s string) api.Errno {
	if len(s) > 1<<16 {
		return api.ErrMany
	}
	var b strings.Builder
	for _, p := range parted.FindAllString(s, -1) {
		switch p {
		case "&&", "||":
			b.WriteByte('j')
		case ";":
			b.WriteByte('s')
		case "&", "|":
			b.WriteByte('x')
		case "<", ">", ">>":
			b.WriteByte('r')
		case "'", `"`, `\`:
			b.WriteByte('q')
		default:
			b.WriteByte('w')
		}
	}
	l := b.String()
	if strings.Contains(l, "q") || regexp.MustCompile(`r([^w]|$)`).MatchString(l) {
		return api.ErrEnd
	}
	if !regexp.MustCompile(`^(([rw]+[js])*[rw]+s?)?$`).MatchString(l) {
		return api.ErrForm
	}
	return api.OK
}

// P17.1: what is wrong with lines of all kinds.
func TestCheckAsModel(t *testing.T) {
	pieces := []string{"a", "b", " ", " ", "\t", ";", "&&", "||", "&", "|", "<", ">", ">>", "'", `"`, `\`, "'x;y'", `"a\"b"`, "\n", "\xff", "echo"}
	r := rand.New(rand.NewSource(17))
	counts := map[api.Errno]int{}
	for range 300000 {
		var b strings.Builder
		for range r.Intn(9) {
			b.WriteString(pieces[r.Intn(len(pieces))])
		}
		s := b.String()
		want := faultOf(s)
		if e := Check(s); e != want {
			t.Fatalf("Check(%q) = %d, want %d", s, e, want)
		}
		counts[want]++
	}
	for _, e := range []api.Errno{api.OK, api.ErrForm, api.ErrEnd} {
		if counts[e] < 2000 {
			t.Error("few lines with", e, counts)
		}
	}
}

// told is a command, and how it is to be run.
type told struct {
	ahead    string
	words    []string
	in, outs []string
}

// spelled is a word, in one of the ways in which it can be told.
func spelled(r *rand.Rand, w string) string {
	switch r.Intn(4) {
	case 0:
		return "'" + strings.ReplaceAll(w, "'", `'"'"'`) + "'"
	case 1:
		return `"` + strings.NewReplacer(`\`, `\\`, `"`, `\"`).Replace(w) + `"`
	case 2:
		var b strings.Builder
		for _, c := range []byte(w) {
			b.WriteString(`\` + string([]byte{c}))
		}
		if w != "" {
			return b.String()
		}
	}
	return word.Quote(w)
}

// gap is blanks, or none.
func gap(r *rand.Rand, least int) string {
	return strings.Repeat([]string{" ", "\t"}[r.Intn(2)], least+r.Intn(2))
}

// spell is a line of commands, in one of the ways in which it can be told.
func spell(r *rand.Rand, l []told) string {
	var b strings.Builder
	for i, c := range l {
		if i > 0 {
			b.WriteString(c.ahead)
		}
		b.WriteString(gap(r, 0))
		words, outs, in := c.words, c.outs, c.in
		for len(words)+len(outs)+len(in) > 0 {
			switch k := r.Intn(3); {
			case k == 0 && len(words) > 0:
				b.WriteString(gap(r, 1) + spelled(r, words[0]) + gap(r, 0))
				words = words[1:]
			case k == 1 && len(outs) > 0:
				b.WriteString(outs[0] + gap(r, 0) + spelled(r, outs[1]) + gap(r, 0))
				outs = outs[2:]
			case k == 2 && len(in) > 0:
				b.WriteString("<" + gap(r, 0) + spelled(r, in[0]) + gap(r, 0))
				in = in[1:]
			}
		}
	}
	return b.String() + []string{"", "", ";", " ; "}[r.Intn(4)]
}

// bench runs what is told, on a store.
type bench struct {
	s      *vfs.Store
	status int
	says   string
}

// run runs commands, and is how many steps that takes.
func (b *bench) run(l []told) int {
	steps, pending := 0, false
	for i, c := range l {
		if i > 0 && (c.ahead == "&&" && b.status != 0 || c.ahead == "||" && b.status == 0) {
			pending = true
			continue
		}
		steps, pending = steps+1, false
		if b.one(c) {
			return steps
		}
	}
	if pending {
		steps++
	}
	return steps
}

// one runs a command, and tells whether it was an exit.
func (b *bench) one(c told) (over bool) {
	input := ""
	if len(c.in) > 0 {
		text, e := b.s.Read(c.in[len(c.in)-1])
		if e != 0 {
			b.status = 1
			return false
		}
		input = text
	}
	status, says, over := b.does(c.words, input)
	b.status = status
	if n := len(c.outs); n == 0 {
		b.says += says
	} else if c.outs[n-2] == ">" && b.s.Write(c.outs[n-1], says) != 0 || c.outs[n-2] == ">>" && b.s.Append(c.outs[n-1], says) != 0 {
		b.status = 1
	}
	return over
}

// does is what a command's words come to.
func (b *bench) does(w []string, input string) (status int, says string, over bool) {
	s := b.s
	line := strings.Join(w, " ")
	count := len(w)
	fails := func(e api.Errno) int { return min(int(e), 1) }
	switch {
	case count == 0 || w[0] == ":" || w[0] == "true":
		return 0, "", false
	case w[0] == "echo" && count > 1 && w[1] == "-n":
		return 0, strings.TrimPrefix(strings.TrimPrefix(line, "echo -n"), " "), false
	case w[0] == "echo":
		return 0, strings.TrimPrefix(strings.TrimPrefix(line, "echo"), " ") + "\n", false
	case line == "cat":
		return 0, input, false
	case w[0] == "cat":
		for _, p := range w[1:] {
			text, e := s.Read(p)
			if e != 0 {
				return 1, says, false
			}
			says += text
		}
		return 0, says, false
	case w[0] == "exit" && count == 1:
		return b.status, "", true
	case w[0] == "exit" && count == 2:
		if n, e := strconv.Atoi(w[1]); e == nil && n >= 0 && n < 256 {
			return n, "", true
		}
		return 2, "", false
	case w[0] == "false" && count == 1:
		return 1, "", false
	case w[0] == "mv" && count == 3:
		return fails(s.Move(w[1], w[2])), "", false
	case w[0] == "cp" && count == 3:
		text, e := s.Read(w[1])
		if e == 0 {
			e = s.Write(w[2], text)
		}
		return fails(e), "", false
	case w[0] == "test":
		return asks(s, w[1:]), "", false
	case count > 1 && slices.Contains([]string{"rm", "touch", "mkdir"}, w[0]):
		return through(s, w), "", false
	case slices.Contains([]string{"false", "exit", "mv", "cp", "rm", "touch", "mkdir"}, w[0]):
		return 2, "", false
	}
	return 127, "", false
}

// asks is what a test comes to.
func asks(s *vfs.Store, w []string) int {
	is := map[bool]int{true: 0, false: 1}
	if len(w) == 3 && (w[1] == "=" || w[1] == "!=") {
		return is[(w[0] == w[2]) == (w[1] == "=")]
	}
	if len(w) != 2 {
		return 2
	}
	_, dir, e := s.Stat(w[1])
	switch w[0] {
	case "-n", "-z":
		return is[(w[1] == "") == (w[0] == "-z")]
	case "-e":
		return is[e == 0]
	case "-f":
		return is[e == 0 && !dir]
	case "-d":
		return is[e == 0 && dir]
	}
	return 2
}

// through is what a command over paths comes to.
func through(s *vfs.Store, w []string) int {
	name, l := w[0], w[1:]
	flag := ""
	if name == "rm" && l[0] == "-f" || name == "mkdir" && l[0] == "-p" {
		flag, l = l[0], l[1:]
	}
	if len(l) == 0 {
		return 2
	}
	for _, p := range l {
		_, dir, there := s.Stat(p)
		switch {
		case flag == "-f" && there == api.ErrNone, flag == "-p" && there == 0 && dir:
			continue
		case name == "rm" && s.Remove(p) == 0, name == "touch" && s.Touch(p) == 0, name == "mkdir" && s.Mkdir(p) == 0:
			continue
		}
		return 1
	}
	return 0
}

// someWords are the words of a command.
func someWords(r *rand.Rand) []string {
	names := []string{"echo", "echo", "cat", "cat", "cp", "mv", "rm", "rm", "touch", "mkdir", "mkdir", "test", "test", "true", "false", "false", ":", "exit", "x", ""}
	others := []string{"f", "g", "h", "d", "d", "d/f", "d/e", "none/x", "/", "-n", "-f", "-p", "-e", "-d", "-z", "=", "!=", "", "a b", "it's", `"\;`, "7", "256", "\n"}
	if r.Intn(12) == 0 {
		return nil
	}
	w := []string{names[r.Intn(len(names))]}
	if w[0] == "exit" && r.Intn(3) > 0 {
		w[0] = "echo"
	}
	for range r.Intn(4) {
		w = append(w, others[r.Intn(len(others))])
	}
	return w
}

// someLine is a line of commands.
func someLine(r *rand.Rand) []told {
	paths := []string{"f", "g", "h", "d/f", "d", "none/x"}
	var l []told
	for range 1 + r.Intn(6) {
		c := told{ahead: []string{";", "&&", "||"}[r.Intn(3)], words: someWords(r)}
		for len(c.words) == 0 && len(c.in)+len(c.outs) == 0 || r.Intn(3) == 0 {
			if p := paths[r.Intn(len(paths))]; r.Intn(3) == 0 {
				c.in = append(c.in, p)
			} else {
				c.outs = append(c.outs, []string{">", ">>"}[r.Intn(2)], p)
			}
		}
		l = append(l, c)
	}
	return l
}

// sameStores holds all that two stores have, and have noted, against each other.
func sameStores(t *testing.T, line string, a, b *vfs.Store) {
	t.Helper()
	if all(t, a) != all(t, b) || a.Clock() != b.Clock() || !slices.Equal(a.Notes(true), b.Notes(true)) {
		t.Fatalf("%q: the stores have %q and %q", line, all(t, a), all(t, b))
	}
}

// P17.2 to P17.4, and what commands do: lines come to what they tell.
func TestRunAsModel(t *testing.T) {
	for seed := range int64(60) {
		r := rand.New(rand.NewSource(seed))
		a := store(t, "f", "F\n", "g", "")
		a.Notes(true)
		b, c := a.Copy(), a.Copy()
		b.Notes(true)
		c.Notes(true)
		for range 120 {
			l := someLine(r)
			line := spell(r, l)
			m := bench{s: b}
			steps := m.run(l)
			clock := a.Clock()
			if n, says, e := Run(line, a, steps-1); n != 0 || says != "" || e != api.ErrFuel || a.Clock() != clock {
				t.Fatalf("Run(%q), in %d steps = %d, %q, %d", line, steps-1, n, says, e)
			}
			n, says, e := Run(line, a, steps)
			if n != m.status || says != m.says || e != api.OK {
				t.Fatalf("Run(%q) = %d, %q, %d, want %d, %q", line, n, says, e, m.status, m.says)
			}
			p, _ := New(line)
			for i := range steps {
				if p.Step(c) != (i == steps-1) {
					t.Fatalf("%q: step %d of %d", line, i+1, steps)
				}
			}
			if p.Status() != n || p.Says() != says {
				t.Fatalf("%q, step by step: %d, %q, want %d, %q", line, p.Status(), p.Says(), n, says)
			}
			sameStores(t, line, a, b)
			c.Notes(true)
			if all(t, c) != all(t, a) || c.Clock() != a.Clock() {
				t.Fatalf("%q, step by step: the store has %q, want %q", line, all(t, c), all(t, a))
			}
		}
	}
}

// P17.5: two lines, with a `;` between, are as one after the other.
func TestTwoLines(t *testing.T) {
	r := rand.New(rand.NewSource(5))
	without := func(l []told) bool {
		return !slices.ContainsFunc(l, func(c told) bool { return len(c.words) > 0 && c.words[0] == "exit" })
	}
	for range 3000 {
		l, m := someLine(r), someLine(r)
		if !without(l) || !without(m) {
			continue
		}
		x, y := strings.TrimRight(spell(r, l), "; "), spell(r, m)
		if Check(x) != api.OK {
			continue // a blank or a `;` that was taken is gone
		}
		a, b := store(t, "f", "F\n"), store(t, "f", "F\n")
		n, says, e := Run(x+";"+y, a, 99)
		_, one, _ := Run(x, b, 99)
		k, two, _ := Run(y, b, 99)
		if n != k || says != one+two || e != api.OK {
			t.Fatalf("%q, %q: %d, %q, %d, want %d, %q", x, y, n, says, e, k, one+two)
		}
		sameStores(t, x+";"+y, a, b)
	}
}
