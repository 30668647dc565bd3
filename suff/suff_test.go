package suff

import (
	"slices"
	"strconv"
	"strings"
	"testing"

	"bobstay/api"
	"bobstay/rule"
)

// parsed are rules of lines.
func parsed(t *testing.T, lines ...string) []api.Rule {
	t.Helper()
	var l []api.Rule
	for i, s := range lines {
		r, f := rule.Parse(s, i+1)
		if f != (api.Fault{}) {
			t.Fatalf("Parse(%q): %v", s, f)
		}
		l = append(l, r)
	}
	return l
}

// table is a table of two lists of words; a way's two stand around a `>`.
func table(suffixes, ways string) Table {
	t := Table{Suffixes: strings.Fields(suffixes)}
	for _, s := range strings.Fields(ways) {
		from, to, _ := strings.Cut(s, ">")
		t.Ways = append(t.Ways, [2]string{from, to})
	}
	return t
}

// toldTable is a table's text.
func toldTable(t Table) string {
	s := strings.Join(t.Suffixes, " ") + " |"
	for _, w := range t.Ways {
		s += " " + w[0] + ">" + w[1]
	}
	return s
}

// same tells whether two tables are the same.
func same(a, b Table) bool {
	return slices.Equal(a.Suffixes, b.Suffixes) && slices.Equal(a.Ways, b.Ways)
}

// numbered are so many suffixes, the last one of which is .n.
func numbered(n int) []string {
	var l []string
	for i := range n {
		l = append(l, "."+strconv.Itoa(i+1))
	}
	return l
}

// pairs are the first n ways between so many numbered suffixes.
func pairs(suffixes []string, n int) [][2]string {
	var l [][2]string
	for _, a := range suffixes {
		for _, b := range suffixes {
			if a != b && len(l) < n {
				l = append(l, [2]string{a, b})
			}
		}
	}
	return l
}

// checkOf holds the table of lines to what it should be.
func checkOf(t *testing.T, suffixes, ways string, lines ...string) {
	t.Helper()
	if got, want := Of(parsed(t, lines...)...), table(suffixes, ways); !same(got, want) {
		t.Errorf("Of(%q) = %s, want %s", lines, toldTable(got), toldTable(want))
	}
}

// P15.1: a table is right, if its suffixes and ways may be.
func TestRight(t *testing.T) {
	for _, x := range []Table{
		{},
		table(".c", ""),
		table(".y .c .o", ".y>.c .c>.o"),
		table(".c .o", ".c>.o .o>.c"),
		table("a aa", "a>aa aa>a"),
		{Suffixes: numbered(64), Ways: pairs(numbered(64), 256)},
		{Suffixes: []string{" ", "\x00\xff"}, Ways: [][2]string{{" ", "\x00\xff"}}},
	} {
		if !Right(x) {
			t.Errorf("Right(%s) = false", toldTable(x))
		}
	}
}

// wrong are tables that may not be; where their ways may stand, they lead to .o.
func wrong() []Table {
	return []Table{
		{Suffixes: []string{".c", "", ".o"}, Ways: [][2]string{{".c", ".o"}}},
		{Suffixes: []string{""}},
		table(".c .o .c", ".c>.o"),
		table(".o .o", ""),
		table(".c .o", ".c>.c .c>.o"),
		table(".c .o", ".c>.o .c>.o"),
		table(".c .o .y", ".c>.o .y>.c .c>.o"),
		table(".c .o", ".c>.o .y>.o"),
		table(".c .o", ".c>.o .c>.y"),
		table("", ".c>.o"),
		{Suffixes: []string{".c", ".o"}, Ways: [][2]string{{".c", ".o"}, {"", ".o"}}},
		{Suffixes: []string{".c", ".o"}, Ways: [][2]string{{".c", ".o"}, {".c", ""}}},
		{Suffixes: []string{".c", ".o"}, Ways: [][2]string{{".c", ".o"}, {}}},
		{Suffixes: append(numbered(63), ".c", ".o"), Ways: [][2]string{{".c", ".o"}}},
		{Suffixes: append(numbered(30), ".c", ".o"), Ways: append(pairs(numbered(30), 256), [2]string{".c", ".o"})},
	}
}

// P15.1: what makes a table wrong.
func TestRightNot(t *testing.T) {
	for _, x := range wrong() {
		if Right(x) {
			t.Errorf("Right(%s) = true", toldTable(x))
		}
	}
	if x := (Table{Suffixes: numbered(1 << 20), Ways: pairs(numbered(1000), 900000)}); Right(x) {
		t.Error("a great table is right")
	}
}

// P15.2: of a table that is not right there is nothing.
func TestWrongTables(t *testing.T) {
	for _, x := range wrong() {
		if l := Next(x, "a.o"); len(l) > 0 {
			t.Errorf("Next of %s = %q", toldTable(x), l)
		}
		if l := Reach(x, "a.o"); len(l) > 0 {
			t.Errorf("Reach of %s = %q", toldTable(x), l)
		}
		if l, ok := Chain(x, "a.o", "a.c"); len(l) > 0 || ok {
			t.Errorf("Chain of %s = %q, %v", toldTable(x), l, ok)
		}
	}
}

// P15.1: the suffixes of rules.
func TestOfSuffixes(t *testing.T) {
	checkOf(t, "", "")
	checkOf(t, ".c .o", "", ".SUFFIXES: .c .o")
	checkOf(t, ".c .o .y", "", ".SUFFIXES: .c .o", "a: b", ".SUFFIXES: .o .y .c .y")
	checkOf(t, ".y", "", ".SUFFIXES: .c .o", ".SUFFIXES:", ".SUFFIXES: .y")
	checkOf(t, "", "", ".SUFFIXES: .c .o", ".SUFFIXES:")
	checkOf(t, ".o .c", "", ".SUFFIXES: .c .o", ".SUFFIXES:", ".SUFFIXES: .o", ".SUFFIXES: .c .o")
	checkOf(t, ".c .o x .SUFFIXES", "", ".SUFFIXES :: .c", ".SUFFIXES ! .o", ".SUFFIXES: x .SUFFIXES; cmd")
}

// P15.1: only the target .SUFFIXES alone tells suffixes.
func TestOfSuffixesAlone(t *testing.T) {
	checkOf(t, "", "", "a .SUFFIXES: .c .o", ".SUFFIXES a: .c", ".SUFFIXES .SUFFIXES: .c", ".SUFFIXE: .c", ".SUFFIXES.c: .c", "a: .SUFFIXES")
	checkOf(t, ".c", "", ".SUFFIXES: .c", ".SUFFIXES a:", ".SUFFIXES .SUFFIXES:", ".SUFFIXES a: .o")
	if x := Of(api.Rule{Sources: []string{".c"}}, api.Rule{}); !same(x, Table{}) {
		t.Errorf("of rules without targets: %s", toldTable(x))
	}
}

// P15.1: what makes more than 64 suffixes is not added.
func TestOfManySuffixes(t *testing.T) {
	all := numbered(70)
	for _, cut := range []int{0, 10, 63, 64, 65, 70} {
		x := Of(api.Rule{Targets: []string{".SUFFIXES"}, Sources: append([]string{".1"}, all[:cut]...)},
			api.Rule{Targets: []string{".SUFFIXES"}, Sources: append(slices.Clone(all[cut:]), ".1", ".70")})
		if !slices.Equal(x.Suffixes, all[:64]) || !Right(x) {
			t.Errorf("cut at %d: %q", cut, x.Suffixes)
		}
	}
	tell := api.Rule{Targets: []string{".SUFFIXES"}, Sources: all}
	none := api.Rule{Targets: []string{".SUFFIXES"}}
	more := api.Rule{Targets: []string{".SUFFIXES"}, Sources: []string{".x", ".1", ".y"}}
	if x := Of(tell, more, none, more); strings.Join(x.Suffixes, " ") != ".x .1 .y" {
		t.Errorf("behind all going: %q", x.Suffixes)
	}
}

// P15.1: the ways of rules.
func TestOfWays(t *testing.T) {
	checkOf(t, ".y .c .o", ".c>.o .y>.c", ".SUFFIXES: .y .c .o", ".c.o:; cc", ".y.c:; yacc")
	checkOf(t, ".c .o", ".c>.o", ".SUFFIXES: .c .o", ".c.o:; cc", ".c.o:; cc2", ".c.o :: a; cc3")
	checkOf(t, ".c .o", ".c>.o", ".SUFFIXES: .c .o", ".c.o :: x y; cc", "a.c.o:; no", ".c.oa:; no", ".c .o:; no")
	checkOf(t, ".c .o", ".o>.c", ".SUFFIXES: .c .o", ".o.c ! ; cc")
	checkOf(t, "a aa", "a>aa", ".SUFFIXES: a aa", "aaa:; x")
	checkOf(t, "aa a", "aa>a", ".SUFFIXES: aa a", "aaa:; x")
	checkOf(t, ".SUFF IXES", ".SUFF>IXES", ".SUFFIXES: .SUFF IXES; x")
	// Ways are those of all suffixes, wherever these are told.
	checkOf(t, ".c .o", ".c>.o", ".c.o:; cc", ".SUFFIXES: .c", "a:", ".SUFFIXES: .o")
	checkOf(t, ".o", "", ".SUFFIXES: .c .o", ".c.o:; cc", ".SUFFIXES:", ".SUFFIXES: .o")
	checkOf(t, "", "", ".SUFFIXES: .c .o", ".c.o:; cc", ".SUFFIXES:")
	checkOf(t, ".o .c", ".c>.o", ".SUFFIXES: .c .o", ".c.o:; cc", ".SUFFIXES:", ".SUFFIXES: .o .c")
}

// P15.1: what gives no way.
func TestOfNoWays(t *testing.T) {
	checkOf(t, ".c .o", "", ".SUFFIXES: .c .o", ".c.o:")               // no commands
	checkOf(t, ".c .o", "", ".SUFFIXES: .c .o", ".c.o: a b")           // no commands
	checkOf(t, ".c .o", "", ".SUFFIXES: .c .o", ".c.o a:; cc")         // two targets
	checkOf(t, ".c .o", "", ".SUFFIXES: .c .o", ".c.o .c.o:; cc")      // two targets
	checkOf(t, ".c .o", "", ".SUFFIXES: .c .o", ".c:; cc", ".o:; x")   // one suffix alone
	checkOf(t, ".c .o", "", ".SUFFIXES: .c .o", ".c.c:; cc")           // two that are alike
	checkOf(t, "aa a aaa", "", ".SUFFIXES: aa a aaa", "aaaa:; x")      // the first of those that fit is aa aa
	checkOf(t, ".c .o", "", ".SUFFIXES: .c .o", ".c.y:; cc", ".y.o:x") // no suffix
	checkOf(t, "", "", ".c.o:; cc")
	x := Of(api.Rule{Targets: []string{".SUFFIXES"}, Sources: []string{".c", ".o"}}, api.Rule{Commands: []string{"x"}},
		api.Rule{Targets: []string{""}, Commands: []string{"x"}})
	if len(x.Ways) > 0 {
		t.Errorf("ways of no name: %s", toldTable(x))
	}
	// A command, even an empty one, is one.
	x = Of(api.Rule{Targets: []string{".SUFFIXES"}, Sources: []string{".c", ".o"}}, api.Rule{Targets: []string{".c.o"}, Commands: []string{""}})
	if !same(x, table(".c .o", ".c>.o")) {
		t.Errorf("of an empty command: %s", toldTable(x))
	}
}

// P15.1: an empty source, which no line has, is a suffix as others are, so that the
// table is not right.
func TestOfEmptySuffix(t *testing.T) {
	x := Of(api.Rule{Targets: []string{".SUFFIXES"}, Sources: []string{".c", "", ".o", ""}}, api.Rule{Targets: []string{".c"}, Commands: []string{"x"}})
	if want := (Table{[]string{".c", "", ".o"}, [][2]string{{".c", ""}}}); !same(x, want) || Right(x) {
		t.Errorf("%s", toldTable(x))
	}
}

// P15.1: what makes more than 256 ways is not added.
func TestOfManyWays(t *testing.T) {
	suffixes := numbered(17)
	l := []api.Rule{{Targets: []string{".SUFFIXES"}, Sources: suffixes}}
	want := pairs(suffixes, 272)
	for _, w := range want {
		r := api.Rule{Targets: []string{w[0] + w[1]}, Commands: []string{"x"}}
		l = append(l, r, r)
	}
	if x := Of(l...); !same(x, Table{suffixes, want[:256]}) || !Right(x) {
		t.Errorf("%d ways, %v", len(x.Ways), Right(x))
	}
	if x := Of(l[:1+2*256]...); !same(x, Table{suffixes, want[:256]}) {
		t.Errorf("%d ways", len(x.Ways))
	}
}

// R4: a table has lists of its own.
func TestOfOwn(t *testing.T) {
	l := parsed(t, ".SUFFIXES: .c .o .y", ".c.o:; x")
	x := Of(l...)
	x.Suffixes[0], x.Suffixes = "x", append(x.Suffixes, "y")
	if got := rule.Format(l[0]); got != ".SUFFIXES: .c .o .y" {
		t.Error(got)
	}
	if got := Of(l...); !same(got, table(".c .o .y", ".c>.o")) {
		t.Error(toldTable(got))
	}
}
