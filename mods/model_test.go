package mods

import (
	"math/rand"
	"regexp"
	"slices"
	"strconv"
	"strings"
	"testing"

	"bobstay/api"
	"bobstay/glob"
	"bobstay/path"
	"bobstay/rx"
	"bobstay/word"
)

// The model reads a chain by putting a stand-in for each d, or :, that a \
// takes, and by cutting at those that are left; it looks at every place of a
// word one by one, and knows no bounds of memory.

const standIn = "\x00"

var (
	modelFilter = regexp.MustCompile(`^[MN]`)
	modelDelim  = regexp.MustCompile(`(?s)^[SC][^a-zA-Z0-9 \t\\]`)
	modelFlags  = regexp.MustCompile(`^(|g|1|g1|1g)(:|$)`)
	modelPlaces = regexp.MustCompile(`^(-?[0-9]{1,6})(?:\.\.(-?[0-9]{1,6}))?$`)
)

type step func(words []string) []string

func modelParse(s string) ([]step, api.Fault) {
	var l []step
	rest, at := s, 0
	for s != "" {
		do, behind, why := modelRead(rest)
		if why == 0 && len(l) == 32 {
			why = api.ErrMany
		}
		if why != 0 {
			return nil, api.Fault{Why: why, At: at}
		}
		l = append(l, do)
		if behind == "" {
			return l, api.Fault{}
		}
		at += len(rest) - len(behind) + 1
		rest = behind[1:]
	}
	return nil, api.Fault{}
}

// modelRead is the first modifier of a text, and what is behind it, from its :
// on.
func modelRead(s string) (step, string, api.Errno) {
	hidden := strings.ReplaceAll(s, `\:`, standIn)
	told, behind := hidden, ""
	if i := strings.Index(hidden, ":"); i >= 0 {
		told, behind = hidden[:i], strings.ReplaceAll(hidden[i:], standIn, `\:`)
	}
	told = strings.ReplaceAll(told, standIn, ":")
	switch {
	case modelFilter.MatchString(told):
		return modelEach(func(w string) []string {
			if glob.Match(told[1:], w) == (told[0] == 'M') {
				return []string{w}
			}
			return nil
		}), behind, 0
	case modelDelim.MatchString(s):
		return modelChange(s)
	case strings.HasPrefix(s, "["):
		return modelChoice(s)
	}
	if do := modelPlain(told); do != nil {
		return do, behind, 0
	}
	eq := strings.Index(told, "=")
	if eq < 0 {
		return nil, "", api.ErrMods
	}
	return modelEach(func(w string) []string { return []string{modelEnd(w, told[:eq], told[eq+1:])} }), behind, 0
}

func modelEach(do func(w string) []string) step {
	return func(words []string) []string {
		var l []string
		for _, w := range words {
			l = append(l, do(w)...)
		}
		return l
	}
}

func modelPlain(told string) step {
	turned := func(l []string) []string {
		var back []string
		for i := len(l) - 1; i >= 0; i-- {
			back = append(back, l[i])
		}
		return back
	}
	sorted := func(l []string) []string { return slices.Sorted(slices.Values(l)) }
	byByte := func(low, high byte, by int) step {
		return modelEach(func(w string) []string {
			b := []byte(w)
			for i := range b {
				if low <= b[i] && b[i] <= high {
					b[i] = byte(int(b[i]) + by)
				}
			}
			return []string{string(b)}
		})
	}
	switch told {
	case "T":
		return modelEach(func(w string) []string { return []string{path.Name(w)} })
	case "H":
		return modelEach(func(w string) []string { return []string{path.Dir(w)} })
	case "R":
		return modelEach(func(w string) []string { return []string{path.Root(w)} })
	case "E":
		return modelEach(func(w string) []string {
			if x := path.Suffix(w); x != "" {
				return []string{x[1:]}
			}
			return nil
		})
	case "O":
		return sorted
	case "Or":
		return func(l []string) []string { return turned(sorted(l)) }
	case "r":
		return turned
	case "u":
		return func(l []string) []string {
			var kept []string
			for i, w := range l {
				if i == 0 || l[i-1] != w {
					kept = append(kept, w)
				}
			}
			return kept
		}
	case "tl":
		return byByte('A', 'Z', 32)
	case "tu":
		return byByte('a', 'z', -32)
	case "Q":
		return func(l []string) []string { return []string{word.Quote(word.Join(l...))} }
	}
	return nil
}

func modelEnd(w, a, b string) string {
	cut := strings.Index(a, "%")
	// Each way to part the word in three is tried.
	for i := 0; i <= len(w); i++ {
		for j := i; j <= len(w); j++ {
			if cut < 0 && w[i:] == a {
				return w[:i] + b
			}
			if cut < 0 || w[:i] != a[:cut] || w[j:] != a[cut+1:] {
				continue
			}
			if k := strings.Index(b, "%"); k >= 0 {
				return b[:k] + w[i:j] + b[k+1:]
			}
			return b
		}
	}
	return w
}

func modelChange(s string) (step, string, api.Errno) {
	d := s[1:2]
	parts := strings.SplitN(strings.ReplaceAll(s[2:], `\`+d, standIn), d, 3)
	if len(parts) < 2 {
		return nil, "", api.ErrEnd
	}
	a := strings.ReplaceAll(parts[0], standIn, d)
	expr, fault := rx.Compile(a)
	if s[0] == 'C' && fault.Why != 0 {
		return nil, "", api.ErrMods
	}
	if len(parts) < 3 {
		return nil, "", api.ErrEnd
	}
	b := strings.ReplaceAll(parts[1], standIn, d)
	tail := strings.ReplaceAll(parts[2], standIn, `\`+d)
	flags := modelFlags.FindStringSubmatch(tail)
	if flags == nil {
		return nil, "", api.ErrMods
	}
	all, once := strings.Contains(flags[1], "g"), strings.Contains(flags[1], "1")
	do := func(words []string) []string {
		met := false
		return modelEach(func(w string) []string {
			if once && met {
				return []string{w}
			}
			made, ok := modelSubst(w, a, b, all), true
			if s[0] == 'C' {
				_, _, ok = expr.Find(w, 0)
				ok = ok && len(w) <= 256
				made = []string{expr.Replace(w, b, all)}
			} else {
				ok = made != nil
			}
			if !ok {
				return []string{w}
			}
			met = true
			return made
		})(words)
	}
	return do, tail[len(flags[1]):], 0
}

// modelSubst is what S makes of a word: nil, if there is no place.
func modelSubst(w, a, b string, all bool) []string {
	begin, end := strings.HasPrefix(a, "^"), false
	if begin {
		a = a[1:]
	}
	if end = strings.HasSuffix(a, "$"); end {
		a = a[:len(a)-1]
	}
	made, found := "", false
	for i := 0; i <= len(w); {
		here := strings.HasPrefix(w[i:], a) && (!begin || i == 0) && (!end || i+len(a) == len(w))
		if here && (!found || all && a != "") {
			made += strings.Join(strings.Split(b, "&"), a)
			found = true
			if a != "" {
				i += len(a)
				continue
			}
		}
		if i < len(w) {
			made += w[i : i+1]
		}
		i++
	}
	if !found {
		return nil
	}
	return []string{made}
}

func modelChoice(s string) (step, string, api.Errno) {
	end := strings.Index(s, "]")
	if end < 0 {
		return nil, "", api.ErrEnd
	}
	x, behind := s[1:end], s[end+1:]
	two := modelPlaces.FindStringSubmatch(x)
	if behind != "" && behind[0] != ':' || two == nil && x != "#" && x != "*" {
		return nil, "", api.ErrMods
	}
	return func(l []string) []string {
		switch {
		case x == "#":
			return []string{strconv.Itoa(len(l))}
		case x == "*" && len(l) == 0:
			return nil
		case x == "*":
			return []string{word.Join(l...)}
		case two[2] == "":
			return modelPick(l, two[1], two[1])
		}
		return modelPick(l, two[1], two[2])
	}, behind, 0
}

func modelPick(l []string, from, to string) []string {
	at := func(told string) int {
		n, _ := strconv.Atoi(told)
		for i := range l {
			if n == i+1 || n == i-len(l) {
				return i
			}
		}
		return -1
	}
	i, j := at(from), at(to)
	if i < 0 || j < 0 {
		return nil
	}
	picked := []string{l[i]}
	for i < j {
		i++
		picked = append(picked, l[i])
	}
	for i > j {
		i--
		picked = append(picked, l[i])
	}
	return picked
}

// against fails unless a chain has the model's faults, or makes what the model
// makes.
func against(t *testing.T, chain string, words []string) {
	t.Helper()
	steps, want := modelParse(chain)
	l, f := Parse(chain)
	if f != want || len(l) != len(steps) {
		t.Fatalf("Parse(%q): %v, %d, want %v, %d", chain, f, len(l), want, len(steps))
	}
	wanted := slices.Clone(words)
	for _, do := range steps {
		wanted = do(wanted)
	}
	if f.Why != api.OK {
		wanted = nil
	}
	made, e := All(chain, words...)
	if e != f.Why || !slices.Equal(made, wanted) {
		t.Fatalf("All(%q, %q) = %q, %d, want %q", chain, words, made, e, wanted)
	}
}

// TestModel: P6.1 and P6.2: chains of bytes that have a meaning somewhere.
func TestModel(t *testing.T) {
	r := rand.New(rand.NewSource(4))
	for _, alphabet := range []string{
		`MNSCTHERO urtlQ[]#*=%\:/,a1g.-^$&b`,
		`S/a^$&\:g1b`,
		`C/a(*|)[]\:g1b`,
		`[1-2.]:0`,
		`ab%=\:`,
		`S:a\b`,
	} {
		for range 40000 {
			against(t, some(r, alphabet, 12), someWords(r))
		}
	}
}

// TestModelChains: P6.2: chains of modifiers most of which may be.
func TestModelChains(t *testing.T) {
	r := rand.New(rand.NewSource(5))
	d := func() string { return string(`/,:=^$&%|.`[r.Intn(10)]) }
	flags := func() string { return []string{"", "", "g", "1", "g1", "1g", "gg"}[r.Intn(7)] }
	n := func() string { return strconv.Itoa(r.Intn(9) - 4) }
	change := func(kind, alphabet string) string {
		d := d()
		return kind + d + some(r, alphabet+`\`+d, 4) + d + some(r, `xa&\`+d, 4) + d + flags()
	}
	one := []func() string{
		func() string { return "M" + some(r, `ab*?\.`, 4) },
		func() string { return "N" + some(r, `ab*?\.`, 4) },
		func() string { return change("S", "^a$b.") },
		func() string { return change("S", "ab") },
		func() string { return change("C", "ab.*|") },
		func() string { return change("C", "^a$b") },
		func() string { return []string{"T", "H", "E", "R", "tl", "tu"}[r.Intn(6)] },
		func() string { return []string{"O", "Or", "u", "r", "Q", "[#]", "[*]"}[r.Intn(7)] },
		func() string { return "[" + n() + "]" },
		func() string { return "[" + n() + ".." + n() + "]" },
		func() string { return some(r, `ab%\.`, 3) + "=" + some(r, `x%\:`, 3) },
	}
	for range 100000 {
		var l []string
		for range 1 + r.Intn(3) {
			l = append(l, one[r.Intn(len(one))]())
		}
		against(t, strings.Join(l, ":"), someWords(r))
	}
}
