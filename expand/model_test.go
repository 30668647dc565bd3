package expand

import (
	"math/rand"
	"slices"
	"strings"
	"testing"

	"bobstay/api"
	"bobstay/mods"
	"bobstay/vars"
	"bobstay/word"
)

// size is how many bytes what begins with a $ has: each use looks for its end by
// itself, and takes what is in it by its own size.
func size(s string) int {
	if len(s) < 2 {
		return len(s)
	}
	closing := map[byte]byte{'{': '}', '(': ')'}[s[1]]
	if closing == 0 {
		return 2
	}
	opened := 1
	for i := 2; i < len(s); i++ {
		switch s[i] {
		case '$':
			n := size(s[i:])
			if n == 0 {
				return 0
			}
			i += n - 1
		case s[1]:
			opened++
		case closing:
			if opened--; opened == 0 {
				return i + 1
			}
		}
	}
	return 0
}

// parted is a use's name, and its modifiers, as they stand there.
func parted(use string) (name, modifiers string) {
	if use[1] != '{' && use[1] != '(' {
		return use[1:], ""
	}
	use = use[2 : len(use)-1]
	for i := 0; i < len(use); i++ {
		switch use[i] {
		case '$':
			i += size(use[i:]) - 1
		case ':':
			return use[:i], use[i+1:]
		}
	}
	return use, ""
}

// model finds meanings byte by byte; its first error stays.
type model struct {
	values map[string]string
	fuel   int
	why    api.Errno
}

func (m *model) fail(so bool, why api.Errno) bool {
	if so && m.why == api.OK {
		m.why = why
	}
	return m.why != api.OK
}

func (m *model) text(s string, path ...string) (out string) {
	for i := 0; i < len(s); i++ {
		if s[i] != '$' {
			out += s[i : i+1]
		} else {
			n := size(s[i:])
			if m.fail(n == 0, api.ErrEnd) {
				return ""
			}
			if use := s[i : i+n]; use == "$" || use == "$$" {
				out += "$"
			} else {
				out += m.use(use, path...)
			}
			i += n - 1
		}
		if m.fail(len(out) > api.MaxText, api.ErrMany) {
			return ""
		}
	}
	return out
}

func (m *model) use(use string, path ...string) string {
	if m.fail(m.fuel < 1, api.ErrFuel) {
		return ""
	}
	m.fuel--
	name, modifiers := parted(use)
	name = m.text(name, path...)
	if m.why == api.OK {
		modifiers = m.text(modifiers, path...)
	}
	value, has := m.values[name]
	switch {
	case m.why != api.OK, modifiers != "" && modifiers[0] == 'D' && !has:
		return ""
	case modifiers != "" && modifiers[0] == 'U' && has:
		return value
	case modifiers != "" && (modifiers[0] == 'D' || modifiers[0] == 'U'):
		return modifiers[1:]
	}
	if m.fail(slices.Contains(path, name) || len(path) >= 32, api.ErrLoop) || m.fail(m.fuel < len(value), api.ErrFuel) {
		return ""
	}
	m.fuel -= len(value)
	meaning := m.text(value, append(slices.Clone(path), name)...)
	if m.why != api.OK || modifiers == "" {
		return meaning
	}
	l, fault := mods.Parse(modifiers)
	if m.fail(fault.Why != api.OK, fault.Why) {
		return ""
	}
	words, why := mods.Apply(l, word.Fields(meaning)...)
	m.fail(why != api.OK, why)
	return word.Join(words...)
}

// answer is what Text answers.
type answer struct {
	meaning string
	left    int
	why     api.Errno
}

func ask(s string, v *vars.Set, fuel int) answer {
	meaning, left, why := Text(s, v, fuel)
	return answer{meaning, left, why}
}

func (m model) ask(s string, fuel int) answer {
	m.fuel = max(fuel, 0)
	meaning := m.text(s)
	if m.why != api.OK {
		return answer{why: m.why}
	}
	return answer{meaning, m.fuel, api.OK}
}

// pieces are what random texts are made of.
var pieces = []string{"$A", "$B", "$C", "$D", "${A}", "$(B)", "${", "$(", "}", ")", "{", "(", ":", "$", "$$", "A", "B", "C", "D", "U", "x", " ", "\t",
	"${A:U", "${B:D", "$(C:U", "${N:U", ":S/x/y/}", ":M*}", ":Q}", ":O)", ":tl}", ":[1]}", ":", "$:", "$}", "${${", "}}", "abc", "y z"}

func random(r *rand.Rand, most int) string {
	var b strings.Builder
	for range r.Intn(most + 1) {
		b.WriteString(pieces[r.Intn(len(pieces))])
	}
	return b.String()
}

// closed is a random text whose uses end, mostly.
func closed(r *rand.Rand, deep int) string {
	var b strings.Builder
	for range r.Intn(4) {
		switch k := r.Intn(8); {
		case k < 3 || deep == 0:
			b.WriteString([]string{"x", "a b", "$$", ".c", "A", "B", "$D", "{}", ":"}[r.Intn(9)])
		case k < 5:
			b.WriteString("${" + closed(r, deep-1) + "}")
		case k < 7:
			b.WriteString("$(" + []string{"A", "B", "C", "D", "N"}[r.Intn(5)] + ":" + []string{"U", "D", "M*", "S/x/", "", "Q", "O:u"}[r.Intn(7)] +
				closed(r, deep-1) + []string{"", "/", ":Q"}[r.Intn(3)] + ")")
		default:
			b.WriteString("$" + []string{"A", "B", "C", "D", "N"}[r.Intn(5)])
		}
	}
	return b.String()
}

// world is a set of random variables, and the model that knows them.
func world(r *rand.Rand) (*vars.Set, model) {
	v, m := vars.New(), model{values: map[string]string{}}
	for _, name := range []string{"A", "B", "C", "D", "x", "AB"} {
		if r.Intn(6) == 0 {
			continue
		}
		value := closed(r, 1)
		if r.Intn(4) == 0 {
			value = random(r, 4)
		}
		m.values[name] = value
		v.Put(vars.Global, name, value)
	}
	return v, m
}

// some is a random text of either kind.
func some(r *rand.Rand) string {
	if r.Intn(2) == 0 {
		return random(r, 8)
	}
	return closed(r, 2)
}

// P8.1 and P8.2: what the model answers.
func TestModel(t *testing.T) {
	r := rand.New(rand.NewSource(8))
	seen := map[api.Errno]int{}
	for range 60000 {
		v, m := world(r)
		s := some(r)
		fuel := r.Intn(60) - 3
		got, want := ask(s, v, fuel), m.ask(s, fuel)
		if got != want {
			t.Fatalf("Text(%q, %q, %d) = %v, want %v", s, m.values, fuel, got, want)
		}
		seen[got.why]++
		if got, want := Use(s), size(s); strings.HasPrefix(s, "$") && got != want {
			t.Fatalf("Use(%q) = %d, want %d", s, got, want)
		}
		usesAsModel(t, s)
	}
	for _, e := range []api.Errno{api.OK, api.ErrEnd, api.ErrFuel, api.ErrLoop, api.ErrMods} {
		if seen[e] < 100 {
			t.Errorf("%v was answered only %d times", e, seen[e])
		}
	}
}

func usesAsModel(t *testing.T, s string) {
	t.Helper()
	var want []string
	why := api.OK
	for i := strings.IndexByte(s, '$'); i >= 0 && i < len(s); i++ {
		if s[i] != '$' {
			continue
		}
		n := size(s[i:])
		if n == 0 {
			want, why = nil, api.ErrEnd
			break
		}
		if use := s[i : i+n]; use != "$" && use != "$$" {
			name, _ := parted(use)
			want = append(want, name)
		}
		i += n - 1
	}
	if got, e := Uses(s); !slices.Equal(got, want) || e != why {
		t.Fatalf("Uses(%q) = %q, %v, want %q, %v", s, got, e, want, why)
	}
}

// P8.3.
func TestQuotedMeansItself(t *testing.T) {
	r := rand.New(rand.NewSource(83))
	for range 20000 {
		v, _ := world(r)
		s := some(r)
		if got := ask(Quote(s), v, 0); got != (answer{meaning: s}) {
			t.Fatalf("Quote(%q) = %q means %v", s, Quote(s), got)
		}
		if names, e := Uses(Quote(s)); len(names) != 0 || e != api.OK {
			t.Fatalf("Quote(%q) has the uses %q, %v", s, names, e)
		}
	}
}

// P8.4.
func TestTwoTexts(t *testing.T) {
	r := rand.New(rand.NewSource(84))
	held := 0
	for range 40000 {
		v, _ := world(r)
		a, b := some(r), some(r)
		if _, e := Uses(a); e != api.OK || midst(a) {
			continue
		}
		held++
		first, both := ask(a, v, 500), ask(a+b, v, 500)
		if first.why != api.OK {
			if both != first {
				t.Fatalf("%q means %v, with %q behind it %v", a, first, b, both)
			}
			continue
		}
		want := ask(b, v, first.left)
		if want.why == api.OK {
			want.meaning = first.meaning + want.meaning
		}
		if both != want {
			t.Fatalf("%q and %q mean %v, want %v", a, b, both, want)
		}
	}
	if held < 10000 {
		t.Errorf("only %d pairs were held against each other", held)
	}
}

// midst tells whether a text whose uses end has a $ last that takes what comes
// behind it.
func midst(s string) bool {
	for s != "$" {
		i := strings.IndexByte(s, '$')
		if i < 0 {
			return false
		}
		if i == 0 {
			i = size(s)
		}
		s = s[i:]
	}
	return true
}

// P8.5.
func TestMoreFuel(t *testing.T) {
	r := rand.New(rand.NewSource(85))
	for range 20000 {
		v, m := world(r)
		s := some(r)
		less, more := r.Intn(60), r.Intn(60)
		got, then := ask(s, v, less), ask(s, v, less+more)
		if got.why == api.ErrFuel {
			continue
		}
		if got.why == api.OK {
			got.left += more
		}
		if got != then {
			t.Fatalf("%q (%q) with fuel %d: %v, with %d more: %v", s, m.values, less, got, more, then)
		}
	}
}
