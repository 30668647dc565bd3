package rule

import (
	"math/rand"
	"regexp"
	"slices"
	"strings"
	"testing"

	"bobstay/api"
)

var aLine = regexp.MustCompile(`^(?s)([^:!]*)(::|:|!)([^;]*)(?:;(.*))?$`)

// modelParse is a line's rule.
func modelParse(s string, at int) (api.Rule, api.Fault) {
	found := aLine.FindStringSubmatch(s)
	if found == nil {
		return api.Rule{}, api.Fault{Why: api.ErrRule, At: at}
	}
	blank := func(c rune) bool { return c == ' ' || c == '\t' }
	r := api.Rule{
		Targets: strings.FieldsFunc(found[1], blank),
		Kind:    map[string]int{":": 1, "!": 2, "::": 3}[found[2]],
		Sources: strings.FieldsFunc(found[3], blank),
		At:      at,
	}
	if command := strings.TrimFunc(found[4], blank); command != "" {
		r.Commands = []string{command}
	}
	if len(r.Targets) == 0 {
		return api.Rule{}, api.Fault{Why: api.ErrRule, At: at}
	}
	for _, name := range append(slices.Clone(r.Targets), r.Sources...) {
		if len(name) > 255 {
			return api.Rule{}, api.Fault{Why: api.ErrRule, At: at}
		}
	}
	return r, api.Fault{}
}

// modelWrong tells whether a rule may not stand behind earlier ones, each of which is
// asked by itself.
func modelWrong(earlier []api.Rule, r api.Rule) bool {
	for _, e := range earlier {
		for _, target := range r.Targets {
			if !slices.Contains(e.Targets, target) {
				continue
			}
			if (e.Kind == 3) != (r.Kind == 3) {
				return true
			}
			special := strings.HasPrefix(target, ".B") || strings.HasPrefix(target, ".P")
			if r.Kind != 3 && len(r.Commands) > 0 && len(e.Commands) > 0 && !special {
				return true
			}
		}
	}
	return false
}

// modelJoin asks all rules first; then it cuts all of them, and takes what is alike
// together.
func modelJoin(l []api.Rule) ([]api.Rule, api.Fault) {
	for i, r := range l {
		if modelWrong(l[:i], r) {
			return nil, api.Fault{Why: api.ErrRule, At: r.At}
		}
	}
	var cut []api.Rule
	for _, r := range l {
		for _, target := range r.Targets {
			one := cloned(r)
			one.Targets = []string{target}
			cut = append(cut, one)
		}
	}
	var made []api.Rule
	for i, r := range cut {
		same := func(x api.Rule) bool { return x.Targets[0] == r.Targets[0] && x.Kind != 3 }
		if r.Kind != 3 && slices.ContainsFunc(cut[:i], same) {
			continue
		}
		if r.Kind == 3 {
			made = append(made, r)
			continue
		}
		for _, x := range cut[i+1:] {
			if same(x) {
				r.Sources = slices.Concat(r.Sources, x.Sources)
				r.Commands = slices.Concat(r.Commands, x.Commands)
				r.Kind = max(r.Kind, x.Kind)
			}
		}
		made = append(made, r)
	}
	return made, api.Fault{}
}

// anyOf is a text of some parts.
func anyOf(r *rand.Rand, n int, parts ...string) string {
	var s strings.Builder
	for range r.Intn(n + 1) {
		s.WriteString(parts[r.Intn(len(parts))])
	}
	return s.String()
}

// P13.1 and P13.4, held against the model.
func TestParseModel(t *testing.T) {
	r := rand.New(rand.NewSource(1))
	right := 0
	for range 200000 {
		s := anyOf(r, 12, " ", " ", "\t", "a", "b", ".c", ":", "!", "::", ";", "'", `\`, "$", "\n", "\xff", "é", strings.Repeat("n", 100))
		got, f := Parse(s, 5)
		want, wrong := modelParse(s, 5)
		if f != wrong || told(got) != told(want) {
			t.Fatalf("Parse(%q) = %s, %v, want %s, %v", s, told(got), f, told(want), wrong)
		}
		if f != (api.Fault{}) {
			continue
		}
		right++
		if again, f := Parse(Format(got), 5); f != (api.Fault{}) || !Same(again, got) {
			t.Fatalf("Parse(%q) of %q = %s, %v, want %s", Format(got), s, told(again), f, told(got))
		}
	}
	if right < 50000 {
		t.Errorf("%d lines alone were rules", right)
	}
}

// P13.2, held against all pairs.
func TestSuffixesModel(t *testing.T) {
	r := rand.New(rand.NewSource(2))
	for range 100000 {
		name := anyOf(r, 5, "a", "b", ".")
		var list []string
		for range r.Intn(6) {
			list = append(list, anyOf(r, 3, "a", "b", "."))
		}
		first, second, ok := Suffixes(name, list...)
		wantFirst, wantSecond, want := modelSuffixes(name, list)
		if first != wantFirst || second != wantSecond || ok != want {
			t.Fatalf("Suffixes(%q, %q) = %q, %q, %v, want %q, %q, %v", name, list, first, second, ok, wantFirst, wantSecond, want)
		}
	}
}

// modelSuffixes are a name's suffixes.
func modelSuffixes(name string, list []string) (string, string, bool) {
	for _, first := range list {
		for _, second := range list {
			if first+second == name {
				return first, second, true
			}
		}
	}
	for _, alone := range list {
		if alone == name {
			return name, "", true
		}
	}
	return "", "", false
}

// anyRules are some rules of few names.
func anyRules(r *rand.Rand, commands int) []api.Rule {
	var l []api.Rule
	names := []string{"a", "b", "c", "d", "e", ".BEGIN", ".PHONY", ".x"}
	doubles := []string{"p", "q"}
	for i := range r.Intn(7) {
		x := api.Rule{Kind: 1 + r.Intn(3), At: i*3 + 1}
		from := names
		if x.Kind == 3 && r.Intn(8) > 0 {
			from = doubles
		}
		for range r.Intn(4) {
			x.Targets = append(x.Targets, from[r.Intn(len(from))])
		}
		for range r.Intn(3) {
			x.Sources = append(x.Sources, names[r.Intn(len(names))])
		}
		if r.Intn(10) < commands {
			x.Commands = strings.Fields(anyOf(r, 3, "x ", "y "))
		}
		l = append(l, x)
	}
	return l
}

// P13.3 and P13.5, held against the model.
func TestJoinModel(t *testing.T) {
	r := rand.New(rand.NewSource(3))
	right := 0
	for i := range 200000 {
		l := anyRules(r, i%10)
		before := toldAll(l)
		got, f := Join(l...)
		want, wrong := modelJoin(l)
		if f != wrong || !sameRules(got, want) {
			t.Fatalf("Join(%s) = %s, %v, want %s, %v", before, toldAll(got), f, toldAll(want), wrong)
		}
		if toldAll(l) != before {
			t.Fatalf("Join wrote into %s", before)
		}
		if f != (api.Fault{}) {
			continue
		}
		if len(got) > 1 {
			right++
		}
		checkJoined(t, got)
		if t.Failed() {
			t.Fatalf("Join(%s) = %s", before, toldAll(got))
		}
	}
	if right < 50000 {
		t.Errorf("%d lists alone could be joined", right)
	}
}
