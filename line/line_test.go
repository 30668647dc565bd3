package line

import (
	"slices"
	"strconv"
	"strings"
	"testing"

	"bobstay/api"
)

// short is a text for a message.
func short(s string) string {
	if len(s) > 200 {
		return strconv.Quote(s[:200]) + ".. of " + strconv.Itoa(len(s)) + " bytes"
	}
	return strconv.Quote(s)
}

// told are lines for a message.
func told(l []Line) string {
	s := strconv.Itoa(len(l)) + " lines"
	for i, x := range l {
		if i == 20 {
			return s + " .."
		}
		kind := " plain "
		if x.Command {
			kind = " command "
		}
		s += ", " + strconv.Itoa(x.At) + kind + short(x.Text)
	}
	return s
}

// plain is a line that is no command.
func plain(at int, text string) Line { return Line{text, at, false} }

// order is a command.
func order(at int, text string) Line { return Line{text, at, true} }

// checkRead holds a text to its lines.
func checkRead(t *testing.T, s string, want ...Line) {
	t.Helper()
	if got, f := Read(s); f != (api.Fault{}) || !slices.Equal(got, want) {
		t.Errorf("Read(%s) = %s, %v, want %s", short(s), told(got), f, told(want))
	}
}

// checkText holds a text to one line, no command, at 1.
func checkText(t *testing.T, s, want string) {
	t.Helper()
	checkRead(t, s, plain(1, want))
	checkRead(t, s+"\n", plain(1, want))
}

// checkFault holds a text to a fault.
func checkFault(t *testing.T, s string, why api.Errno, at int) {
	t.Helper()
	if got, f := Read(s); f != (api.Fault{Why: why, At: at}) || len(got) > 0 {
		t.Errorf("Read(%s) = %d lines, %v, want none, {%v, %d}", short(s), len(got), f, why, at)
	}
}

// P11.1: the chapter's own, and ordinary makefiles.
func TestReadOrdinary(t *testing.T) {
	checkRead(t, "A = b \\\n  c # note\n", plain(1, "A = b  c"))
	checkRead(t, "A = b\n\n# note\nall: x y\n\tcc x # no note\n\n.if 1\n",
		plain(1, "A = b"), plain(4, "all: x y"), order(5, "cc x # no note"), plain(7, ".if 1"))
	checkRead(t, "S = a \\\n\tb \\\n\tc\nx: y\n\techo a; \\\n\t  echo b\nz:\n",
		plain(1, "S = a  b  c"), plain(4, "x: y"), order(5, "echo a; \\\n  echo b"), plain(7, "z:"))
}

// P11.1: raw lines end with the byte 10 alone, the last one also at the end.
func TestReadRawLines(t *testing.T) {
	checkRead(t, "a", plain(1, "a"))
	checkRead(t, "a\n", plain(1, "a"))
	checkRead(t, "a\nb", plain(1, "a"), plain(2, "b"))
	checkRead(t, "\n\na\n\n\nb\n\n", plain(3, "a"), plain(6, "b"))
	checkRead(t, "a\r\nb\rc\n", plain(1, "a\r"), plain(2, "b\rc"))
	checkRead(t, "a\x00\xff\xa0\v\n\u00a0\u2028\n", plain(1, "a\x00\xff\xa0\v"), plain(2, "\u00a0\u2028"))
}

// P11.1: what is empty, or has blanks alone, is no line.
func TestReadNothing(t *testing.T) {
	for _, s := range []string{
		"", "\n", "\n\n\n", " ", "  \t\n", "\t", "\t\n", "\t \t\n", "\t\t", "#", "# a\n", "  # a\n", " \t#",
		"\\\n\n", "  \\\n\t \\\n \n", "\\\n# a\n", "# a\\\nb\n", "#\\\n\tb\n",
	} {
		checkRead(t, s)
	}
	checkRead(t, "\t\\\n\n", order(1, "\\\n"))
	checkRead(t, "\t\r", order(1, "\r"))
	checkRead(t, "\f", plain(1, "\f"))
}

// P11.1: of a line that is no command blanks at the end go, those first stay.
func TestReadBlanks(t *testing.T) {
	checkText(t, "a \t ", "a")
	checkText(t, "  a\t b ", "  a\t b")
	checkText(t, " \ta", " \ta")
	checkText(t, "a \t # b", "a")
	checkText(t, `a \#  # b`, "a #")
	checkText(t, "a\u00a0", "a\u00a0")
	checkText(t, "a\xa0 ", "a\xa0")
}

// P11.1: an odd number of \ at the end joins, an even one does not.
func TestReadGoesOn(t *testing.T) {
	checkText(t, "a\\\nb", "a b")
	checkText(t, "a \\\n \t b", "a  b")
	checkText(t, "a\t\\\nb", "a\t b")
	checkText(t, "a\\\n\tb", "a b")
	checkText(t, "\\\n\tb", " b")
	checkText(t, "\\\n\\\n  \\\nb", "   b")
	checkText(t, "a\\\\\\\nb", `a\\ b`)
	checkRead(t, "a\\\n \nb", plain(1, "a"), plain(3, "b"))
	checkRead(t, "a\\\\\nb", plain(1, `a\\`), plain(2, "b"))
	checkRead(t, "a\\\\\\\\\n\tb", plain(1, `a\\\\`), order(2, "b"))
	checkRead(t, "a\\\n\\\\\nb", plain(1, `a \\`), plain(3, "b"))
	checkRead(t, "a\\\n\\\nb\nc", plain(1, "a  b"), plain(4, "c"))
	checkRead(t, "a\\ \nb", plain(1, `a\`), plain(2, "b"))
	checkRead(t, "a\\\r\nb", plain(1, "a\\\r"), plain(2, "b"))
	checkRead(t, "\\\n\\\n\n\na", plain(5, "a"))
	checkRead(t, "\n\\\n\\\na\nb", plain(2, "  a"), plain(5, "b"))
	checkRead(t, "a # b\\\nc\nd", plain(1, "a"), plain(3, "d"))
	checkRead(t, "a # b\\\\\nc", plain(1, "a"), plain(2, "c"))
	checkRead(t, "# a\\\n\tb\n\tc", order(3, "c"))
}

// P11.1: the first # that no \ takes, and all behind it, goes.
func TestReadNotes(t *testing.T) {
	checkText(t, "a#b", "a")
	checkText(t, "a #b #c", "a")
	checkText(t, `a\#b`, "a#b")
	checkText(t, `\#b`, "#b")
	checkText(t, `a\\#b`, `a\\`)
	checkText(t, `a\\\#b`, `a\\#b`)
	checkText(t, `a\\\\#b`, `a\\\\`)
	checkText(t, `a\\\\\#b`, `a\\\\#b`)
	checkText(t, `a\#\#b#c\#d`, "a##b")
	checkText(t, `a\##b`, "a#")
	checkText(t, `a\ #b`, `a\`)
	checkText(t, `a\b\\c\`+"\t", `a\b\\c\`)
	checkText(t, "a\\\n#b", "a")
	checkText(t, "a\\\\\\\n#b", `a\\`)
	checkText(t, "a\\\n\\#b", "a #b")
	checkText(t, "a\\\n\\\\#b", `a \\`)
	checkText(t, `"a#b"`, `"a`)
	checkText(t, "${a:S/#/x/}", "${a:S/")
}

// P11.1: a command stays as it is, but for one byte 9 first on each raw line.
func TestReadCommands(t *testing.T) {
	checkRead(t, "\ta", order(1, "a"))
	checkRead(t, "\t\t a \t", order(1, "\t a \t"))
	checkRead(t, "\ta#b \\# c # d\n", order(1, `a#b \# c # d`))
	checkRead(t, "\t#", order(1, "#"))
	checkRead(t, " \ta # b\n", plain(1, " \ta"))
	checkRead(t, "\ta\\\nb\n", order(1, "a\\\nb"))
	checkRead(t, "\ta \\\n\tb \n", order(1, "a \\\nb "))
	checkRead(t, "\ta\\\n\t\tb\n", order(1, "a\\\n\tb"))
	checkRead(t, "\ta\\\n \tb\n", order(1, "a\\\n \tb"))
	checkRead(t, "\ta\\\n\nb", order(1, "a\\\n"), plain(3, "b"))
	checkRead(t, "\ta\\\n\t\nb", order(1, "a\\\n"), plain(3, "b"))
	checkRead(t, "\ta\\\n\t\\\n\t\t\\\\\\\nb\n\tc", order(1, "a\\\n\\\n\t\\\\\\\nb"), order(5, "c"))
	checkRead(t, "\ta\\\\\n\tb\n", order(1, `a\\`), order(2, "b"))
	checkRead(t, "\t\\\\\nb\n", order(1, `\\`), plain(2, "b"))
	checkRead(t, "\t# a\\\nb\nc", order(1, "# a\\\nb"), plain(3, "c"))
}

// P11.1: the last raw line may not go on, whatever it is part of.
func TestReadEnd(t *testing.T) {
	for s, at := range map[string]int{
		`\`: 1, "\\\n": 1, `a\`: 1, "a\\\n": 1, `a\\\`: 1, "a\nb\\\n": 2, "a\\\nb\\\n": 2, "a\\\n\\": 2,
		`# a\`: 1, "\ta\\": 1, "\ta\\\n\\\n": 2, "\t\\": 1, " \\": 1, "\n\n\\\n": 3, `a#\`: 1,
	} {
		checkFault(t, s, api.ErrEnd, at)
	}
	checkRead(t, `a\\`, plain(1, `a\\`))
	checkRead(t, "\ta\\\\\n", order(1, `a\\`))
	checkRead(t, "a\\\n\n", plain(1, "a"))
}

// P11.1: more than 2^16 bytes are too many, ahead of all else.
func TestReadLength(t *testing.T) {
	most := strings.Repeat("a", api.MaxText)
	checkRead(t, most, plain(1, most))
	checkFault(t, most+"a", api.ErrMany, 0)
	checkFault(t, most+"\n", api.ErrMany, 0)
	checkFault(t, most+"\\", api.ErrMany, 0)
	checkFault(t, strings.Repeat("\n", api.MaxText+1), api.ErrMany, 0)
	checkFault(t, strings.Repeat("a\n", api.MaxText), api.ErrMany, 0)
	checkFault(t, most[1:]+"\\", api.ErrEnd, 1)
	checkRead(t, strings.Repeat("\n", api.MaxText-1)+"a", plain(api.MaxText, "a"))
	checkRead(t, strings.Repeat("\\\n", api.MaxText/2-1)+" a", plain(1, strings.Repeat(" ", api.MaxText/2-1)+"a"))
	checkRead(t, strings.Repeat(`\#`, api.MaxText/2), plain(1, strings.Repeat("#", api.MaxText/2)))
	checkRead(t, "\t"+most[1:], order(1, most[1:]))
}

// P11.1: the 4097th line is told at the raw line with which it begins; raw lines
// that are none do not count.
func TestReadMany(t *testing.T) {
	full := strings.Repeat("a\n", api.MaxLines)
	var want []Line
	for i := range api.MaxLines {
		want = append(want, plain(i+1, "a"))
	}
	checkRead(t, full, want...)
	checkRead(t, full+"\n# b\n\t\n  \n\\\n\n", want...)
	checkFault(t, full+"b", api.ErrMany, 4097)
	checkFault(t, full+"b\nc\nd", api.ErrMany, 4097)
	checkFault(t, full+"\tb\n", api.ErrMany, 4097)
	checkFault(t, full+"\n# b\n\t\n \\\n\\\nb\nc\n", api.ErrMany, 4100)
	checkFault(t, strings.Repeat("a\\\nb\n\n", api.MaxLines)+"\t\\\n\n", api.ErrMany, 3*api.MaxLines+1)
	// That the end is missing is named ahead of it.
	checkFault(t, full+"b\nc\\\n", api.ErrEnd, 4098)
	checkFault(t, full+"b\\", api.ErrEnd, 4097)
}

// P11.2: what each line is written as.
func TestWrite(t *testing.T) {
	for _, c := range []struct {
		want string
		l    []Line
	}{
		{"", nil},
		{"", []Line{}},
		{"\n", []Line{{}}},
		{"\t\n", []Line{order(0, "")}},
		{"A = b\n", []Line{plain(7, "A = b")}},
		{"a:\n\tb\n\tc\nd\n", []Line{plain(9, "a:"), order(3, "b"), order(3, "c"), plain(-1, "d")}},
		{"\\#a \\#\\#\n", []Line{plain(1, "#a ##")}},
		{"\\\\#\\\\\\#\n", []Line{plain(1, `\#\\#`)}},
		{"\t#a \\#\n", []Line{order(1, `#a \#`)}},
		{"\ta\\\n\tb\n", []Line{order(1, "a\\\n\tb")}},
		{"a\nb\\\n", []Line{plain(1, "a\nb\\")}},
		{"\ta \n", []Line{plain(1, "\ta ")}},
		{"\xff\x00\\#\n", []Line{plain(1, "\xff\x00#")}},
	} {
		kept := slices.Clone(c.l)
		if got := Write(c.l); got != c.want {
			t.Errorf("Write(%s) = %q, want %q", told(c.l), got, c.want)
		}
		if !slices.Equal(kept, c.l) {
			t.Errorf("Write turned %s into %s", told(kept), told(c.l))
		}
	}
}

// P11.2: the first word, and what is behind it.
func TestWord(t *testing.T) {
	for _, c := range [][3]string{
		{"", "", ""},
		{" ", "", ""},
		{" \t \t", "", ""},
		{"a", "a", ""},
		{"a b", "a", "b"},
		{"a\tb", "a", "b"},
		{" \ta \t b  c\td \t", "a", "b  c\td \t"},
		{"a ", "a", ""},
		{"a \t ", "a", ""},
		{"\t.if defined(A) && 1", ".if", "defined(A) && 1"},
		{`"a b" c`, `"a`, `b" c`},
		{`a\ b`, `a\`, "b"},
		{"a\nb c", "a\nb", "c"},
		{"\n a", "\n", "a"},
		{"\u00a0a\r\v \f", "\u00a0a\r\v", "\f"},
		{"\xff\x00\xa0 \xffa", "\xff\x00\xa0", "\xffa"},
		{"ä ö", "ä", "ö"},
	} {
		if first, rest := Word(c[0]); first != c[1] || rest != c[2] {
			t.Errorf("Word(%q) = %q, %q, want %q, %q", c[0], first, rest, c[1], c[2])
		}
	}
}

// P11.2: two lists are the same, if all lines are, with all that they have.
func TestSame(t *testing.T) {
	a := plain(1, "a")
	lists := [][]Line{
		{}, {{}}, {a}, {a, a}, {a, a, a}, {plain(2, "a")}, {order(1, "a")}, {plain(1, "b")}, {plain(1, "")},
		{a, plain(2, "b")}, {plain(2, "b"), a}, {a, plain(2, "c")}, {a, plain(3, "b")}, {a, order(2, "b")},
	}
	for i, x := range lists {
		for j, y := range lists {
			if got := Same(x, slices.Clone(y)); got != (i == j) {
				t.Errorf("Same(%s, %s) = %t", told(x), told(y), got)
			}
		}
	}
	if !Same(nil, nil) || !Same(nil, []Line{}) || !Same([]Line{}, nil) || Same(nil, []Line{{}}) {
		t.Error("a list that is nil and one that is empty are not the same to Same")
	}
}

// R4: what Read answers is the caller's.
func TestReadAnswersNewLists(t *testing.T) {
	const s = "a\n\tb\n"
	first, _ := Read(s)
	second, _ := Read(s)
	first[0], first[1] = Line{}, Line{}
	if !Same(second, []Line{plain(1, "a"), order(2, "b")}) {
		t.Errorf("writing into an answer turned another one: %s", told(second))
	}
	checkRead(t, s, second...)
}
