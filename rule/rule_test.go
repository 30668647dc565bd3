package rule

import (
	"math"
	"slices"
	"strconv"
	"strings"
	"testing"

	"bobstay/api"
)

// told is a rule, with all of its fields.
func told(r api.Rule) string {
	s := strconv.Itoa(r.At) + " kind " + strconv.Itoa(r.Kind)
	for _, l := range [][]string{r.Targets, r.Sources, r.Commands} {
		s += " ["
		for _, x := range l {
			s += strconv.Quote(x) + " "
		}
		s += "]"
	}
	return s
}

// toldAll are rules, with all of their fields.
func toldAll(l []api.Rule) string {
	var s strings.Builder
	for _, r := range l {
		s.WriteString("\n\t" + told(r))
	}
	return s.String()
}

// short is a text for a message.
func short(s string) string {
	if len(s) > 2000 {
		return s[:2000] + ".. of " + strconv.Itoa(len(s)) + " bytes"
	}
	return s
}

// many are so many words, each of them unlike the others.
func many(n int) []string {
	var l []string
	for i := range n {
		l = append(l, "w"+strconv.Itoa(i))
	}
	return l
}

// made is a rule of words; of an empty command none.
func made(targets string, kind int, sources, command string, at int) api.Rule {
	r := api.Rule{Targets: strings.Fields(targets), Kind: kind, Sources: strings.Fields(sources), At: at}
	if command != "" {
		r.Commands = []string{command}
	}
	return r
}

// checkParse holds a line to its rule, at some numbers.
func checkParse(t *testing.T, s string, want api.Rule) {
	t.Helper()
	for _, at := range []int{1, 0, -7, 4096, math.MaxInt, math.MinInt} {
		want.At = at
		got, f := Parse(s, at)
		if f != (api.Fault{}) || told(got) != told(want) {
			t.Errorf("Parse(%q, %d) = %s, %v, want %s", short(s), at, short(told(got)), f, short(told(want)))
		}
	}
}

// checkWrong holds a line to a fault, at some numbers.
func checkWrong(t *testing.T, s string, why api.Errno) {
	t.Helper()
	for _, at := range []int{1, 0, -7, 4096, math.MaxInt, math.MinInt} {
		got, f := Parse(s, at)
		if f != (api.Fault{Why: why, At: at}) || told(got) != told(api.Rule{}) {
			t.Errorf("Parse(%q, %d) = %s, %v, want %v", short(s), at, short(told(got)), f, why)
		}
	}
}

// P13.1: the chapter's example, and lines with and without sources and a command.
func TestParse(t *testing.T) {
	checkParse(t, "a b: c d; cmd", made("a b", api.Single, "c d", "cmd", 0))
	checkParse(t, "a:", made("a", api.Single, "", "", 0))
	checkParse(t, "a:b", made("a", api.Single, "b", "", 0))
	checkParse(t, "a!", made("a", api.Always, "", "", 0))
	checkParse(t, "a!b", made("a", api.Always, "b", "", 0))
	checkParse(t, "a::", made("a", api.Double, "", "", 0))
	checkParse(t, "a::b", made("a", api.Double, "b", "", 0))
	checkParse(t, " \ta\t b \t:\t c\td \t", made("a b", api.Single, "c d", "", 0))
	checkParse(t, "b a b: d c d", made("b a b", api.Single, "d c d", "", 0))
	checkParse(t, ".c.o:; cc", made(".c.o", api.Single, "", "cc", 0))
	checkParse(t, ".PHONY .x ! .WAIT a", made(".PHONY .x", api.Always, ".WAIT a", "", 0))
}

// P13.1: the first operator tells, and :: is asked ahead of :.
func TestOperator(t *testing.T) {
	checkParse(t, "a:!b", made("a", api.Single, "!b", "", 0))
	checkParse(t, "a!:b", made("a", api.Always, ":b", "", 0))
	checkParse(t, "a!!b", made("a", api.Always, "!b", "", 0))
	checkParse(t, "a!::b", made("a", api.Always, "::b", "", 0))
	checkParse(t, "a::!b", made("a", api.Double, "!b", "", 0))
	checkParse(t, "a:::b", made("a", api.Double, ":b", "", 0))
	checkParse(t, "a::::b", made("a", api.Double, "::b", "", 0))
	checkParse(t, "a: :b", made("a", api.Single, ":b", "", 0))
	checkParse(t, "a : : b :: c", made("a", api.Single, ": b :: c", "", 0))
	checkParse(t, "a :: b : c ! d", made("a", api.Double, "b : c ! d", "", 0))
	checkParse(t, "a ! b : c", made("a", api.Always, "b : c", "", 0))
	checkParse(t, "a b!c d", made("a b", api.Always, "c d", "", 0))
	checkParse(t, "'a: b'", made("'a", api.Single, "b'", "", 0))
	checkParse(t, `a\: b`, made(`a\`, api.Single, "b", "", 0))
	checkParse(t, "${a:b}", made("${a", api.Single, "b}", "", 0))
	checkParse(t, "a;b: c", made("a;b", api.Single, "c", "", 0))
	checkParse(t, "a; b ! c", made("a; b", api.Always, "c", "", 0))
}

// P13.1: sources end at the first ; behind the operator, and a command has no
// blanks at its ends.
func TestCommand(t *testing.T) {
	checkParse(t, "a:;x", made("a", api.Single, "", "x", 0))
	checkParse(t, "a:b;x", made("a", api.Single, "b", "x", 0))
	checkParse(t, "a: b c ;\t x  y\t ", made("a", api.Single, "b c", "x  y", 0))
	checkParse(t, "a: b;", made("a", api.Single, "b", "", 0))
	checkParse(t, "a: b; \t ", made("a", api.Single, "b", "", 0))
	checkParse(t, "a:;", made("a", api.Single, "", "", 0))
	checkParse(t, "a: b; x; y", made("a", api.Single, "b", "x; y", 0))
	checkParse(t, "a: b;;", made("a", api.Single, "b", ";", 0))
	checkParse(t, "a: b; ;x", made("a", api.Single, "b", ";x", 0))
	checkParse(t, "a: b; c: d ! e", made("a", api.Single, "b", "c: d ! e", 0))
	checkParse(t, "a: b; x \n", made("a", api.Single, "b", "x \n", 0))
	checkParse(t, "a: b; \r x", made("a", api.Single, "b", "\r x", 0))
	checkParse(t, "a:: b; x", made("a", api.Double, "b", "x", 0))
	checkParse(t, "a ! ; x", made("a", api.Always, "", "x", 0))
	checkParse(t, `a: b\; x`, made("a", api.Single, `b\`, "x", 0))
	checkParse(t, "a: 'b; x'", made("a", api.Single, "'b", "x'", 0))
	long := strings.Repeat("x y ", 100000) + "z"
	checkParse(t, "a: b; "+long, made("a", api.Single, "b", long, 0))
}

// P13.1: words stand between the bytes 32 and 9 alone.
func TestBlanks(t *testing.T) {
	for _, c := range []string{"\n", "\r", "\v", "\f", "\x00", "\xff", "\u00a0", "\u3000", "é", "'", `"`, `\`, "$", "#"} {
		want := api.Rule{Targets: []string{c, "a" + c}, Kind: api.Single, Sources: []string{c + "b", c}, Commands: []string{c + "x" + c}}
		checkParse(t, c+" a"+c+":"+c+"b\t"+c+";"+c+"x"+c, want)
	}
}

// P13.1: lines that are no rules.
func TestParseWrong(t *testing.T) {
	for _, s := range []string{
		"", " ", "\t", "a", "a b", " a ", "a;", "a; b", ";", "; a", "\n", "a\nb", "é", "\xff\xfe", "a=b",
		":", "::", "!", ":a", "::a", "!a", " : a", "\t::a", " \t !a", ":;x", " : b; x", "!;", ": : a", ":a:", "!a: b", ":::", " ! a : b",
	} {
		checkWrong(t, s, api.ErrRule)
	}
}

// P13.1: a name has at most 255 bytes, wherever it stands.
func TestNames(t *testing.T) {
	may, not := strings.Repeat("n", 255), strings.Repeat("n", 256)
	for _, op := range []string{":", "!", "::"} {
		if _, f := Parse("a "+may+op+"b "+may+" c;"+not, 1); f != (api.Fault{}) {
			t.Errorf("names of 255 bytes, with %s: %v", op, f)
		}
		checkWrong(t, not+op, api.ErrRule)
		checkWrong(t, "a "+not+op+"b", api.ErrRule)
		checkWrong(t, not+" a"+op+"b", api.ErrRule)
		checkWrong(t, "a"+op+not, api.ErrRule)
		checkWrong(t, "a"+op+"b "+not, api.ErrRule)
		checkWrong(t, "a"+op+not+" b; x", api.ErrRule)
	}
	two := strings.Repeat("é", 128) // 256 bytes
	checkWrong(t, two+":", api.ErrRule)
	checkParse(t, "a: "+two[:254], made("a", api.Single, two[:254], "", 0))
}

// P13.1: at most 4096 targets, and as many sources; a name that may not be, or
// that is missing, is told of first.
func TestMany(t *testing.T) {
	may, more := many(4096), many(4097)
	checkParse(t, strings.Join(may, " ")+":"+strings.Join(may, "\t")+";x",
		api.Rule{Targets: may, Kind: api.Single, Sources: may, Commands: []string{"x"}})
	for _, op := range []string{":", "!", "::"} {
		checkWrong(t, strings.Join(more, " ")+op, api.ErrMany)
		checkWrong(t, strings.Join(more, " ")+op+"a;x", api.ErrMany)
		checkWrong(t, "a"+op+strings.Join(more, " "), api.ErrMany)
		checkWrong(t, strings.Join(more, " ")+op+strings.Join(more, " "), api.ErrMany)
		long := strings.Repeat("n", 256)
		checkWrong(t, strings.Join(more, " ")+op+long, api.ErrRule)
		checkWrong(t, strings.Join(more, " ")+" "+long+op, api.ErrRule)
		checkWrong(t, "a"+op+strings.Join(more, " ")+" "+long, api.ErrRule)
		checkWrong(t, long+op+strings.Join(more, " "), api.ErrRule)
		checkWrong(t, op+strings.Join(more, " "), api.ErrRule)
	}
	checkWrong(t, strings.Join(more, " "), api.ErrRule)
	if _, f := Parse("a:;"+strings.Join(more, " "), 1); f != (api.Fault{}) {
		t.Errorf("a command of 4097 words: %v", f)
	}
}

// P13.2: a rule's line.
func TestFormat(t *testing.T) {
	for _, x := range []struct {
		r    api.Rule
		want string
	}{
		{made("a b", api.Single, "c d", "cmd", 1), "a b: c d; cmd"},
		{made("a b", api.Always, "c d", "cmd", 1), "a b ! c d; cmd"},
		{made("a b", api.Double, "c d", "cmd", 1), "a b :: c d; cmd"},
		{made("a", api.Single, "", "", 0), "a:"},
		{made("a", api.Always, "", "", 0), "a !"},
		{made("a", api.Double, "", "", 0), "a ::"},
		{made("a", api.Single, "b", "", -1), "a: b"},
		{made("a", api.Always, "b", "", -1), "a ! b"},
		{made("a", api.Double, "b", "", -1), "a :: b"},
		{made("a", api.Single, "", "x; y", 9), "a:; x; y"},
		{made("a", api.Always, "", "x", 9), "a !; x"},
		{made("a", api.Double, "", "x", 9), "a ::; x"},
		{made("b a b", api.Single, "d c d", "", 0), "b a b: d c d"},
		{made("a", api.Single, ":b !c", "", 0), "a: :b !c"},
		{api.Rule{Targets: []string{"a"}, Kind: api.Single, Commands: []string{"x", "y", "z"}}, "a:; x"},
		{api.Rule{Targets: []string{"a"}, Kind: api.Single, Sources: []string{"b"}, Commands: []string{" x\t", "y"}}, "a: b;  x\t"},
	} {
		if got := Format(x.r); got != x.want {
			t.Errorf("Format(%s) = %q, want %q", told(x.r), got, x.want)
		}
	}
}

// R1: a rule that no line has is told, too.
func TestFormatOdd(t *testing.T) {
	for _, kind := range []int{0, -1, 4, math.MaxInt, math.MinInt, api.Single, api.Always, api.Double} {
		Format(api.Rule{Kind: kind})
		Format(api.Rule{Targets: []string{""}, Kind: kind, Sources: []string{"", ""}, Commands: []string{""}})
	}
}

// P13.2: what names are for.
func TestClass(t *testing.T) {
	for class, names := range map[int][]string{
		1: {".PHONY", ".PRECIOUS", ".IGNORE", ".SILENT", ".NOTMAIN", ".EXEC", ".META"},
		2: {".ORDER"},
		3: {".SUFFIXES"},
		4: {".PATH", ".PATH.", ".PATH.c", ".PATH.PATH", ".PATH..", ".PATH.a b"},
		5: {".MAIN"},
		6: {".WAIT"},
		7: {".DEFAULT", ".BEGIN", ".END", ".INTERRUPT"},
		8: {".NOTPARALLEL"},
		0: {"", " ", ".", "a", ".c", ".c.o", ".PATHS", ".PATH ", ".PATH/c", ".PATHc", "PATH.c", "x.PATH.c", ".path.c", ".PATh", ".PAT", ".PAT.H",
			".SUFFIXES.", ".SUFFIX", ".MAKE", ".OPTIONAL", ".ERROR", ".USE", ".NOTMAINS", ".ENDS", ".WAIT_1", ".DELETE_ON_ERROR", "\xff", ".PHONY\n"},
	} {
		for _, name := range names {
			if got := Class(name); got != class {
				t.Errorf("Class(%q) = %d, want %d", name, got, class)
			}
			if class == 0 || strings.HasPrefix(name, ".PATH") {
				continue
			}
			for _, other := range []string{name[1:], name + " ", " " + name, name + ".c", name + "X", name[:len(name)-1], strings.ToLower(name), "." + name} {
				if got := Class(other); got != 0 {
					t.Errorf("Class(%q) = %d, want 0", other, got)
				}
			}
		}
	}
}

// P13.2: the suffixes of names.
func TestSuffixes(t *testing.T) {
	for _, x := range []struct {
		name, list, first, second string
		ok                        bool
	}{
		{".c.o", ".c .o", ".c", ".o", true},
		{".c.o", ".o .c", ".c", ".o", true},
		{".o.c", ".c .o", ".o", ".c", true},
		{".c.c", ".c .o", ".c", ".c", true},
		{".c", ".c .o", ".c", "", true},
		{".o", ".c .o", ".o", "", true},
		{".c.o", ".c.o", ".c.o", "", true},
		{".c.o", ".c.o .c", ".c.o", "", true},
		{".c.o", ".c.o .c .o", ".c", ".o", true}, // two are asked ahead of one alone
		{".c.o", ".o .c.o .c", ".c", ".o", true},
		{".a.b.c", ".a .b.c .a.b .c", ".a", ".b.c", true}, // the one whose first suffix stands first
		{".a.b.c", ".a.b .c .a .b.c", ".a.b", ".c", true},
		{".a.b.c", ".c .b.c .a.b .a", ".a.b", ".c", true},
		{".a.b.c", ".a .a.b .c", ".a.b", ".c", true}, // .a fits nothing
		{".a.b.c", ".a .b .c", "", "", false},        // three
		{"aaa", "a aa", "a", "aa", true},
		{"aaa", "aa a", "aa", "a", true},
		{"aa", "a", "a", "a", true},
		{"aa", "aa a", "a", "a", true},
		{".c.o", ".c .c .o .o", ".c", ".o", true},
		{".c", "", "", "", false},
		{".c.o", ".c", "", "", false},
		{".c.o", ".o", "", "", false},
		{".c.o", ".C .O", "", "", false},
		{"x.c.o", ".c .o", "", "", false},
		{".c.ox", ".c .o", "", "", false},
		{".c .o", ".c .o", "", "", false},
		{".co", ".c .o", "", "", false},
		{"x.c", ".c", "", "", false},
		{"", ".c .o", "", "", false},
		{"", "", "", "", false},
		{"\xff\xfe", "\xfe \xff", "\xff", "\xfe", true},
	} {
		list := strings.Fields(x.list)
		first, second, ok := Suffixes(x.name, list...)
		if first != x.first || second != x.second || ok != x.ok {
			t.Errorf("Suffixes(%q, %q) = %q, %q, %v, want %q, %q, %v", x.name, list, first, second, ok, x.first, x.second, x.ok)
		}
		if !slices.Equal(list, strings.Fields(x.list)) {
			t.Errorf("Suffixes(%q) wrote into its list: %q", x.name, list)
		}
	}
}

// P13.2: an empty text in a list is a suffix as others are.
func TestEmptySuffix(t *testing.T) {
	for _, x := range []struct {
		name          string
		list          []string
		first, second string
		ok            bool
	}{
		{"", []string{""}, "", "", true},
		{".c", []string{""}, "", "", false},
		{".c", []string{"", ".c"}, "", ".c", true},
		{".c", []string{".c", ""}, ".c", "", true},
		{".c.o", []string{"", ".c", ".o"}, ".c", ".o", true},
	} {
		first, second, ok := Suffixes(x.name, x.list...)
		if first != x.first || second != x.second || ok != x.ok {
			t.Errorf("Suffixes(%q, %q) = %q, %q, %v", x.name, x.list, first, second, ok)
		}
	}
}

// P13.2: rules are the same in all of their fields, and a nil list is as an empty
// one.
func TestSame(t *testing.T) {
	rules := []api.Rule{
		{},
		{At: 1},
		{Kind: api.Single},
		{Kind: api.Double},
		{Targets: []string{"a"}},
		{Sources: []string{"a"}},
		{Commands: []string{"a"}},
		{Targets: []string{""}},
		{Targets: []string{"a", "b"}},
		{Targets: []string{"b", "a"}},
		{Targets: []string{"a b"}},
		{Targets: []string{"a"}, Sources: []string{"b"}},
		{Targets: []string{"a"}, Kind: api.Single, Sources: []string{"b", "c"}, Commands: []string{"x"}, At: 3},
		{Targets: []string{"a"}, Kind: api.Single, Sources: []string{"b", "c"}, Commands: []string{"x"}, At: 4},
		{Targets: []string{"a"}, Kind: api.Always, Sources: []string{"b", "c"}, Commands: []string{"x"}, At: 3},
		{Targets: []string{"a"}, Kind: api.Single, Sources: []string{"b", "c"}, Commands: []string{"x", "y"}, At: 3},
		{Targets: []string{"a"}, Kind: api.Single, Sources: []string{"c", "b"}, Commands: []string{"x"}, At: 3},
		{Targets: []string{"a"}, Kind: api.Single, Sources: []string{"b"}, Commands: []string{"x"}, At: 3},
	}
	for i, a := range rules {
		for k, b := range rules {
			if got := Same(a, cloned(b)); got != (i == k) {
				t.Errorf("Same(%s, %s) = %v", told(a), told(b), got)
			}
		}
	}
	if !Same(api.Rule{}, api.Rule{Targets: []string{}, Sources: []string{}, Commands: []string{}}) {
		t.Error("a nil list is not as an empty one")
	}
}

// P13.4: a rule that was formatted is parsed as it was.
func TestFormatParse(t *testing.T) {
	for _, targets := range []string{"a", "a b", ".PHONY", "a;b ;", "é \xff\n", strings.Repeat("n", 255)} {
		for _, kind := range []int{api.Single, api.Always, api.Double} {
			for _, sources := range []string{"", "b", "b c b", ":b", ": :: !", "!", strings.Join(many(4096), " ")} {
				for _, command := range []string{"", "x", "x  y", ";", "; x;", ": a", "\n", "@-cc"} {
					want := made(targets, kind, sources, command, 7)
					if command == "\n" {
						want.Commands = []string{command}
					}
					if got, f := Parse(Format(want), 7); f != (api.Fault{}) || !Same(got, want) {
						t.Errorf("Parse(%q) = %s, %v, want %s", short(Format(want)), short(told(got)), f, short(told(want)))
					}
				}
			}
		}
	}
}
