package suff

import (
	"math/rand"
	"regexp"
	"slices"
	"strings"
	"testing"

	"bobstay/api"
	"bobstay/rule"
)

// modelNext is what a name can be made of at once, by an expression for each way.
func modelNext(x Table, name string) []string {
	var l []string
	for _, w := range x.Ways {
		found := regexp.MustCompile(`^(?s)(.*)` + regexp.QuoteMeta(w[1]) + `$`).FindStringSubmatch(name)
		if found != nil {
			l = append(l, found[1]+w[0])
		}
	}
	return l
}

// modelChains are all chains to what a name can be made of, in the order in which it is
// come to; each of them is kept whole, from the name on.
func modelChains(x Table, name string) [][]string {
	known := func(l [][]string, s string) bool {
		return s == name || slices.ContainsFunc(l, func(c []string) bool { return c[len(c)-1] == s })
	}
	all, ahead := [][]string{}, [][]string{{name}}
	for len(ahead) > 0 && len(ahead[0]) < 7 {
		var round [][]string
		for _, c := range ahead {
			for _, s := range modelNext(x, c[len(c)-1]) {
				if !known(all, s) && !known(round, s) {
					round = append(round, append(slices.Clone(c), s))
				}
			}
		}
		all, ahead = append(all, round...), round
	}
	return all[:min(len(all), 511)]
}

// modelRight counts, rather than to look ahead.
func modelRight(x Table) bool {
	suffixes, ways := map[string]int{}, map[[2]string]int{}
	for _, s := range x.Suffixes {
		suffixes[s]++
	}
	for _, w := range x.Ways {
		ways[w]++
		if w[0] == w[1] || suffixes[w[0]] == 0 || suffixes[w[1]] == 0 {
			return false
		}
	}
	return suffixes[""] == 0 && len(suffixes) == len(x.Suffixes) && len(ways) == len(x.Ways) && len(suffixes) <= 64 && len(ways) <= 256
}

// some are some of these texts.
func some(r *rand.Rand, n int, of ...string) []string {
	var l []string
	for range r.Intn(n + 1) {
		l = append(l, of[r.Intn(len(of))])
	}
	return l
}

// anyTable is a table, mostly a right one.
func anyTable(r *rand.Rand) Table {
	of := [][]string{
		{".a", ".b", ".c", ".d", ".e", ".f", ".g", ".h", ".i"},
		{"a", "aa", "aaa", "b", "ab", "ba"},
		{".c", ".o", "c", "o", ".c.o", ".o.c"},
	}[r.Intn(3)]
	var x Table
	for _, i := range r.Perm(len(of))[:2+r.Intn(len(of)-1)] {
		x.Suffixes = append(x.Suffixes, of[i])
	}
	for range r.Intn(12) {
		w := [2]string{x.Suffixes[r.Intn(len(x.Suffixes))], x.Suffixes[r.Intn(len(x.Suffixes))]}
		if w[0] != w[1] && !slices.Contains(x.Ways, w) || r.Intn(40) == 0 {
			x.Ways = append(x.Ways, w)
		}
	}
	if r.Intn(40) == 0 {
		x.Suffixes[0] = []string{"", ".x", x.Suffixes[1]}[r.Intn(3)]
	}
	return x
}

// anyName is a name that can perhaps be made of others.
func anyName(r *rand.Rand, x Table) string {
	return strings.Join(some(r, 1, "x", "a", ""), "") + strings.Join(some(r, 3, x.Suffixes...), "")
}

// P15.1 to P15.3, held against the model.
func TestModel(t *testing.T) {
	r := rand.New(rand.NewSource(1))
	chains, cut := 0, 0
	for range 6000 {
		x := anyTable(r)
		name := anyName(r, x)
		if Right(x) != modelRight(x) {
			t.Fatalf("Right(%q) = %v", x, Right(x))
		}
		if !Right(x) {
			cut++
			continue
		}
		if got := Next(x, name); !slices.Equal(got, modelNext(x, name)) {
			t.Fatalf("Next(%s, %q) = %q", toldTable(x), name, got)
		}
		all := modelChains(x, name)
		reach := Reach(x, name)
		for i, c := range all {
			if i >= len(reach) || reach[i] != c[len(c)-1] {
				t.Fatalf("Reach(%s, %q) = %q, want %q", toldTable(x), name, reach, all)
			}
		}
		if len(reach) != len(all) {
			t.Fatalf("Reach(%s, %q) = %q, want %q", toldTable(x), name, reach, all)
		}
		there := append(some(r, 2, append(reach, "none")...), some(r, 1, name)...)
		var want []string
		for _, c := range all {
			if slices.Contains(there, c[len(c)-1]) {
				want = slices.Clone(c)
				slices.Reverse(want)
				chains++
				break
			}
		}
		if got, ok := Chain(x, name, there...); !slices.Equal(got, want) || ok != (len(want) > 0) {
			t.Fatalf("Chain(%s, %q, %q) = %q, %v, want %q", toldTable(x), name, there, got, ok, want)
		}
	}
	if chains < 500 || cut < 100 {
		t.Errorf("%d chains, %d tables that are not right", chains, cut)
	}
}

// P15.4, P15.5 and P15.6.
func TestFollows(t *testing.T) {
	r := rand.New(rand.NewSource(2))
	found, shorter := 0, 0
	for range 20000 {
		x := anyTable(r)
		name := anyName(r, x)
		reach := Reach(x, name)
		there := some(r, 2, append(slices.Clone(reach), name, "none")...)
		c, ok := Chain(x, name, there...)
		if can := slices.ContainsFunc(reach, func(s string) bool { return slices.Contains(there, s) }); ok != can {
			t.Fatalf("Chain(%s, %q, %q) = %q, %v", toldTable(x), name, there, c, ok)
		}
		if !ok {
			continue
		}
		found++
		if c[len(c)-1] != name || len(c) < 2 {
			t.Fatalf("Chain(%s, %q, %q) = %q", toldTable(x), name, there, c)
		}
		for i, s := range c[:len(c)-1] {
			if slices.Contains(there, s) != (i == 0) || !slices.Contains(Next(x, c[i+1]), s) {
				t.Fatalf("Chain(%s, %q, %q) = %q", toldTable(x), name, there, c)
			}
		}
		more, ok := Chain(x, name, append(there, reach[r.Intn(len(reach))])...)
		if !ok || len(more) > len(c) {
			t.Fatalf("Chain(%s, %q, %q) = %q, with more there %q, %v", toldTable(x), name, there, c, more, ok)
		}
		if len(more) < len(c) {
			shorter++
		}
	}
	if found < 3000 || shorter < 200 {
		t.Errorf("%d chains, %d shorter ones", found, shorter)
	}
}

// P15.1, held against a model that tells all suffixes first, and then asks each rule for
// each pair of them.
func TestOfModel(t *testing.T) {
	r := rand.New(rand.NewSource(3))
	ways := 0
	for range 30000 {
		parts := []string{"a", "aa", "b", "ab", ".c", ".SUFFIXES"}
		var l []api.Rule
		for range r.Intn(8) {
			x := api.Rule{Kind: 1 + r.Intn(3), Targets: []string{strings.Join(some(r, 2, parts...), "")}, Commands: some(r, 2, "x", "y")}
			if r.Intn(3) == 0 {
				x.Targets[0] = ".SUFFIXES"
			}
			if r.Intn(10) == 0 {
				x.Targets = append(x.Targets, parts[r.Intn(len(parts))])
			}
			x.Sources = some(r, 4, parts...)
			l = append(l, x)
		}
		var want Table
		for _, x := range l {
			if strings.Join(x.Targets, " ") != ".SUFFIXES" {
				continue
			}
			if len(x.Sources) == 0 {
				want.Suffixes = nil
			}
			for _, s := range x.Sources {
				if !slices.Contains(want.Suffixes, s) {
					want.Suffixes = append(want.Suffixes, s)
				}
			}
		}
		for _, x := range l {
			if w, is := modelWay(x, want.Suffixes); is && !slices.Contains(want.Ways, w) {
				want.Ways = append(want.Ways, w)
				ways++
			}
		}
		if got := Of(l...); !same(got, want) || !Right(got) {
			t.Fatalf("Of(%v) = %s, want %s", l, toldTable(got), toldTable(want))
		}
	}
	if ways < 1000 {
		t.Errorf("%d ways", ways)
	}
}

// modelWay is the way of a rule by the first pair of suffixes that fits.
func modelWay(x api.Rule, suffixes []string) ([2]string, bool) {
	for _, a := range suffixes {
		for _, b := range suffixes {
			if len(x.Targets) == 1 && len(x.Commands) > 0 && x.Targets[0] == a+b {
				return [2]string{a, b}, a != b
			}
		}
	}
	return [2]string{}, false
}

// P15.1: rules that were formatted and parsed again have the same table.
func TestOfParsed(t *testing.T) {
	l := parsed(t, ".SUFFIXES: .y .c .o", ".y.c: ; yacc", ".c.o: ; cc", "p: a.o; ld")
	for i, x := range l {
		again, f := rule.Parse(rule.Format(x), x.At)
		if f != (api.Fault{}) {
			t.Fatal(f)
		}
		l[i] = again
	}
	if got, want := Of(l...), table(".y .c .o", ".y>.c .c>.o"); !same(got, want) {
		t.Error(toldTable(got))
	}
}
