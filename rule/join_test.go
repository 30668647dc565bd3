package rule

import (
	"slices"
	"strconv"
	"strings"
	"testing"

	"bobstay/api"
)

// cloned is a rule with lists of its own.
func cloned(r api.Rule) api.Rule {
	r.Targets, r.Sources, r.Commands = slices.Clone(r.Targets), slices.Clone(r.Sources), slices.Clone(r.Commands)
	return r
}

// parsed are rules of lines, by numbers from 1 on; a line that begins with a byte 9
// is a command of the rule ahead.
func parsed(t *testing.T, lines ...string) []api.Rule {
	t.Helper()
	var l []api.Rule
	for i, s := range lines {
		if command, is := strings.CutPrefix(s, "\t"); is {
			last := &l[len(l)-1]
			last.Commands = append(last.Commands, command)
			continue
		}
		r, f := Parse(s, i+1)
		if f != (api.Fault{}) {
			t.Fatalf("Parse(%q): %v", s, f)
		}
		l = append(l, r)
	}
	return l
}

// sameRules tells whether two lists have the same rules.
func sameRules(a, b []api.Rule) bool { return slices.EqualFunc(a, b, Same) }

// checkJoin holds rules to those that are joined of them.
func checkJoin(t *testing.T, l []api.Rule, want ...api.Rule) {
	t.Helper()
	got, f := Join(l...)
	if f != (api.Fault{}) || !sameRules(got, want) {
		t.Errorf("Join(%s) = %s, %v, want %s", short(toldAll(l)), short(toldAll(got)), f, short(toldAll(want)))
	}
}

// checkClash holds rules to a fault.
func checkClash(t *testing.T, at int, lines ...string) {
	t.Helper()
	l := parsed(t, lines...)
	for _, turn := range []func(int) int{
		func(at int) int { return at },
		func(at int) int { return 100 - at },
		func(at int) int { return -at },
	} {
		turned := slices.Clone(l)
		for i := range turned {
			turned[i].At = turn(turned[i].At)
		}
		want := api.Fault{Why: api.ErrRule, At: turn(at)}
		if got, f := Join(turned...); f != want || len(got) > 0 {
			t.Errorf("Join(%q) = %s, %v, want %v", lines, toldAll(got), f, want)
		}
	}
}

// P13.3: rules are cut into rules of one target each, in order.
func TestJoinCut(t *testing.T) {
	checkJoin(t, nil)
	checkJoin(t, parsed(t, "a: b; x"), made("a", api.Single, "b", "x", 1))
	checkJoin(t, parsed(t, "b a: d c; x", "\ty"),
		api.Rule{Targets: []string{"b"}, Kind: api.Single, Sources: []string{"d", "c"}, Commands: []string{"x", "y"}, At: 1},
		api.Rule{Targets: []string{"a"}, Kind: api.Single, Sources: []string{"d", "c"}, Commands: []string{"x", "y"}, At: 1})
	checkJoin(t, parsed(t, "c b ! x", "a :: y", "d: a"),
		made("c", api.Always, "x", "", 1), made("b", api.Always, "x", "", 1), made("a", api.Double, "y", "", 2), made("d", api.Single, "a", "", 3))
}

// P13.3: what is said of a target that is there is added to its first rule.
func TestJoinAdd(t *testing.T) {
	checkJoin(t, parsed(t, "a: b c", "d: a", "a: c e; x", "a:", "a d: f"),
		made("a", api.Single, "b c c e f", "x", 1), made("d", api.Single, "a f", "", 2))
	checkJoin(t, parsed(t, "a: b; x", "\ty", "a: c", "a b: d"),
		api.Rule{Targets: []string{"a"}, Kind: api.Single, Sources: []string{"b", "c", "d"}, Commands: []string{"x", "y"}, At: 1},
		made("b", api.Single, "d", "", 4))
	for _, lines := range [][]string{{"a: b", "a ! c"}, {"a ! b", "a: c"}, {"a ! b", "a ! c"}} {
		checkJoin(t, parsed(t, lines...), made("a", api.Always, "b c", "", 1))
	}
	checkJoin(t, parsed(t, "a b: x", "b ! y", "a: z"), made("a", api.Single, "x z", "", 1), made("b", api.Always, "x y", "", 1))
}

// P13.3: Double rules stay by themselves.
func TestJoinDouble(t *testing.T) {
	checkJoin(t, parsed(t, "a :: b; x", "c: a", "a :: d; y", "a c2 :: b; x"),
		made("a", api.Double, "b", "x", 1), made("c", api.Single, "a", "", 2), made("a", api.Double, "d", "y", 3),
		made("a", api.Double, "b", "x", 4), made("c2", api.Double, "b", "x", 4))
	for _, op := range []string{":", "!"} {
		for _, command := range []string{"", "; x"} {
			checkClash(t, 2, "a :: b"+command, "a"+op+"c")
			checkClash(t, 2, "a"+op+"b"+command, "a::c")
			checkClash(t, 3, "a :: b"+command, "a :: b"+command, "a"+op+"c", "a"+op+"c")
			checkClash(t, 3, "x a"+op+"b", "y:"+command, "z a :: b", "a: c")
			checkClash(t, 2, ".BEGIN"+op+command, ".BEGIN ::"+command) // whatever the class
			checkClash(t, 2, ".PHONY :: a", ".PHONY"+op+"b")
		}
	}
}

// P13.3: a target of class 0 has the commands of one rule alone.
func TestJoinCommands(t *testing.T) {
	for _, a := range []string{":", "!"} {
		for _, b := range []string{":", "!"} {
			checkClash(t, 2, "a"+a+"b; x", "a"+b+"; y")
			checkClash(t, 2, "a"+a+"b; x", "a"+b+"; x")
			checkClash(t, 3, "a c"+a+"b; x", "d"+a+"; x", "e c f"+b, "\ty", "a:: z")
			checkClash(t, 5, "a"+a, "a"+b+"; x", "a"+a, "a"+b, "a"+a+"; y", "a"+b+"; z")
			checkClash(t, 2, "a.c .c.o"+a+"b; x", ".c.o"+b+"; y")
		}
	}
	// The first rule that may not be is told, whichever way it is wrong.
	checkClash(t, 3, "a:; x", "b: c", "a:; y", "b :: d")
	checkClash(t, 3, "a:; x", "b: c", "b :: d", "a:; y")
	checkClash(t, 2, "a b:; x", "b a:; y")
}

// P13.3: a special name has the commands of all its rules.
func TestJoinSpecial(t *testing.T) {
	for _, name := range []string{
		".BEGIN", ".END", ".INTERRUPT", ".DEFAULT", ".PHONY", ".PRECIOUS", ".IGNORE", ".SILENT", ".NOTMAIN", ".EXEC", ".META",
		".ORDER", ".SUFFIXES", ".PATH", ".PATH.c", ".MAIN", ".WAIT", ".NOTPARALLEL",
	} {
		checkJoin(t, parsed(t, name+": a; x", "\ty", name+" ! b; x", name+":; z"),
			api.Rule{Targets: []string{name}, Kind: api.Always, Sources: []string{"a", "b"}, Commands: []string{"x", "y", "x", "z"}, At: 1})
		checkClash(t, 2, name+" a:; x", name+" a:; y")
	}
}

// P13.3: a rule without targets goes, also one with commands.
func TestJoinNoTargets(t *testing.T) {
	none := api.Rule{Kind: api.Double, Sources: []string{"a"}, Commands: []string{"x"}, At: 9}
	checkJoin(t, []api.Rule{none})
	checkJoin(t, []api.Rule{none, made("a", api.Single, "b", "x", 1), none, {}, {Targets: []string{}}, made("a", api.Single, "c", "", 2), none},
		made("a", api.Single, "b c", "x", 1))
}

// P13.3: a target that a rule has twice is there once, and the rule is none that is
// earlier than itself.
func TestJoinTwiceInOne(t *testing.T) {
	checkJoin(t, parsed(t, "a b a: c d"), made("a", api.Single, "c d c d", "", 1), made("b", api.Single, "c d", "", 1))
	checkJoin(t, parsed(t, "a a: c; x"),
		api.Rule{Targets: []string{"a"}, Kind: api.Single, Sources: []string{"c", "c"}, Commands: []string{"x", "x"}, At: 1})
	checkJoin(t, parsed(t, "a b a :: c; x"),
		made("a", api.Double, "c", "x", 1), made("b", api.Double, "c", "x", 1), made("a", api.Double, "c", "x", 1))
	checkClash(t, 2, "a a: c; x", "b a:; y")
}

// R1: rules that no line has are joined, too.
func TestJoinOdd(t *testing.T) {
	for _, kind := range []int{0, -1, 4} {
		checkJoin(t, []api.Rule{{Targets: []string{"", "a"}, Kind: kind, At: -3}, {Targets: []string{"a", ""}, Kind: api.Single, Sources: []string{""}, Commands: []string{""}}},
			api.Rule{Targets: []string{""}, Kind: kind, Sources: []string{""}, Commands: []string{""}, At: -3},
			api.Rule{Targets: []string{"a"}, Kind: kind, Sources: []string{""}, Commands: []string{""}, At: -3})
	}
}

// P13.3: many rules of one target, and many targets.
func TestJoinMany(t *testing.T) {
	var l []api.Rule
	want := api.Rule{Targets: []string{"a"}, Kind: api.Single, At: 1}
	for i := range 100000 {
		l = append(l, made("a", api.Single, "s"+strconv.Itoa(i), "", i+1))
		want.Sources = append(want.Sources, "s"+strconv.Itoa(i))
	}
	checkJoin(t, l, want)
	all := api.Rule{Targets: many(100000), Kind: api.Double, Sources: []string{"b"}, At: 1}
	got, f := Join(all, all)
	if f != (api.Fault{}) || len(got) != 200000 {
		t.Fatalf("%d rules, %v", len(got), f)
	}
	for i, r := range got {
		if !Same(r, made("w"+strconv.Itoa(i%100000), api.Double, "b", "", 1)) {
			t.Fatalf("rule %d is %s", i, told(r))
		}
	}
}

// R4: nothing is written into what was handed in, and what is answered shares
// nothing with it, or within itself.
func TestJoinOwn(t *testing.T) {
	room := func(l ...string) []string { return append(make([]string, 0, 16), l...) }
	build := func() []api.Rule {
		return []api.Rule{
			{Targets: room("a", "b", "a"), Kind: api.Single, Sources: room("c", "d"), Commands: room("x"), At: 1},
			{Targets: room("b", "e"), Kind: api.Always, Sources: room("f"), At: 2},
			{Targets: room("g", "g"), Kind: api.Double, Sources: room("h"), Commands: room("y", "z"), At: 3},
		}
	}
	l := build()
	got, f := Join(l...)
	if f != (api.Fault{}) {
		t.Fatal(f)
	}
	before := toldAll(got)
	for i := range l {
		for _, list := range [][]string{l[i].Targets, l[i].Sources, l[i].Commands} {
			list = list[:cap(list)]
			for k := range list {
				list[k] = "turned"
			}
		}
	}
	if toldAll(got) != before {
		t.Errorf("the answer turned with the argument: %s", toldAll(got))
	}
	l = build()
	got, _ = Join(l...)
	for i := range got {
		for _, list := range [][]string{got[i].Targets, got[i].Sources, got[i].Commands} {
			rest := others(got, i)
			list = list[:cap(list)]
			for k := range list {
				list[k] = "turned"
			}
			if others(got, i) != rest {
				t.Fatalf("a list of rule %d is shared", i)
			}
		}
	}
	if toldAll(l) != toldAll(build()) {
		t.Errorf("the argument turned with the answer: %s", toldAll(l))
	}
	for i := range l {
		for _, list := range [][]string{l[i].Targets, l[i].Sources, l[i].Commands} {
			if slices.ContainsFunc(list[len(list):cap(list)], func(s string) bool { return s != "" }) {
				t.Errorf("rule %d: the argument's room was written into", i)
			}
		}
	}
}

// others are all rules but one.
func others(l []api.Rule, but int) string {
	return toldAll(l[:but]) + toldAll(l[but+1:])
}

// P13.5: joined rules have one target each, those that are not Double once, and
// joined again they are the same.
func TestJoinAgain(t *testing.T) {
	l := parsed(t, ".SUFFIXES: .c .o", "a b: c; x", "a ! d", "e :: f; y", ".BEGIN:; x", "e g :: h; z", "b c: i", ".BEGIN:; y", ".SUFFIXES:", "a a: j")
	got, f := Join(l...)
	if f != (api.Fault{}) {
		t.Fatal(f)
	}
	checkJoined(t, got)
	checkJoin(t, got,
		made(".SUFFIXES", api.Single, ".c .o", "", 1), made("a", api.Always, "c d j j", "x", 2), made("b", api.Single, "c i", "x", 2),
		made("e", api.Double, "f", "y", 4),
		api.Rule{Targets: []string{".BEGIN"}, Kind: api.Single, Commands: []string{"x", "y"}, At: 5},
		made("e", api.Double, "h", "z", 6), made("g", api.Double, "h", "z", 6), made("c", api.Single, "i", "", 7))
}

// checkJoined holds rules to what joined ones are.
func checkJoined(t *testing.T, l []api.Rule) {
	t.Helper()
	seen := map[string]int{}
	for _, r := range l {
		if len(r.Targets) != 1 {
			t.Errorf("a joined rule has not one target: %s", told(r))
			continue
		}
		if kind, is := seen[r.Targets[0]]; is && (kind != api.Double || r.Kind != api.Double) {
			t.Errorf("the target %q is there twice", r.Targets[0])
		}
		seen[r.Targets[0]] = r.Kind
	}
	checkJoin(t, l, l...)
}
