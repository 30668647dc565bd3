package sh

import (
	"strings"
	"testing"

	"bobstay/api"
	"bobstay/vfs"
	"bobstay/word"
)

// store is a store with files, told as paths and texts; one that ends with a
// slash is a directory.
func store(t *testing.T, files ...string) *vfs.Store {
	t.Helper()
	s, e := vfs.New(api.MaxRoom)
	for i := 0; i < len(files) && e == api.OK; i += 2 {
		if strings.HasSuffix(files[i], "/") {
			e = s.Mkdir(files[i])
		} else {
			e = s.Write(files[i], files[i+1])
		}
	}
	if e != api.OK {
		t.Fatal(files, e)
	}
	return s
}

// all is what a store has: its directories and its files with their texts.
func all(t *testing.T, s *vfs.Store) string {
	t.Helper()
	copied := s.Copy()
	var b strings.Builder
	var down func(dir string)
	down = func(dir string) {
		l, _ := copied.List(dir)
		for _, name := range l {
			p := dir + name
			if _, isDir, _ := copied.Stat(p); isDir {
				b.WriteString(p[1:] + "/ ")
				down(p + "/")
				continue
			}
			text, _ := copied.Read(p)
			b.WriteString(p[1:] + "=" + text + " ")
		}
	}
	down("/")
	return strings.TrimSuffix(b.String(), " ")
}

// run is a line, what it comes to, and what it says.
type run struct {
	line   string
	status int
	says   string
}

// runs runs each line on a store of its own.
func runs(t *testing.T, files []string, l ...run) {
	t.Helper()
	for _, c := range l {
		s := store(t, files...)
		if n, says, e := Run(c.line, s, len(c.line)); n != c.status || says != c.says || e != api.OK {
			t.Errorf("Run(%q) = %d, %q, %d, want %d, %q", c.line, n, says, e, c.status, c.says)
		}
	}
}

// turn is a line, its status, and what the store has behind it.
type turn struct {
	line   string
	status int
	has    string
}

// turns runs each line on a store of its own.
func turns(t *testing.T, files []string, l ...turn) {
	t.Helper()
	for _, c := range l {
		s := store(t, files...)
		n, says, e := Run(c.line, s, len(c.line))
		if has := all(t, s); n != c.status || says != "" || e != api.OK || has != c.has {
			t.Errorf("Run(%q) = %d, %q, %d, with %q, want %d and %q", c.line, n, says, e, has, c.status, c.has)
		}
	}
}

// wrong asks that lines are refused, by every call that takes them.
func wrong(t *testing.T, want api.Errno, lines ...string) {
	t.Helper()
	for _, s := range lines {
		if e := Check(s); e != want {
			t.Errorf("Check(%.40q) = %d, want %d", s, e, want)
		}
		if p, e := New(s); p != nil || e != want {
			t.Errorf("New(%.40q) = %v, %d, want nil and %d", s, p, e, want)
		}
		at := store(t, "f", "x")
		if n, says, e := Run(s, at, 99); n != 0 || says != "" || e != want || at.Clock() != 1 {
			t.Errorf("Run(%.40q) = %d, %q, %d, want 0, nothing and %d", s, n, says, e, want)
		}
	}
}

// P17.1: lines that are right.
func TestRight(t *testing.T) {
	for _, s := range []string{
		"", " ", " \t ", "a", "a;", " a ; ", "a;b", "a&&b", "a||b", "a;b;", "a && b || c ; d",
		"<f", ">f", ">>f", "a<f>g>>h", "a> f", "< f a", "'a;b'", `a\;`, `\;`, `\&\|\<\>`, `"&" '|' "a\"&"`,
		"a';'b", `a "x y"&&b`, "''", `>''`, "> f;", "a\n", "\x00\xff", "a #b", "a (b)", "$a `b`", "!x",
	} {
		if e := Check(s); e != api.OK {
			t.Errorf("Check(%q) = %d", s, e)
		}
		if p, e := New(s); p == nil || e != api.OK {
			t.Errorf("New(%q) = %v, %d", s, p, e)
		}
	}
}

// P17.1: lines that are too long.
func TestTooLong(t *testing.T) {
	longest := strings.Repeat("a", api.MaxText)
	if e := Check(longest); e != api.OK {
		t.Error("the longest line:", e)
	}
	blank := strings.Repeat(" ", api.MaxText)
	wrong(t, api.ErrMany, longest+"a", blank+" ", blank+"'", blank+"&", ">"+blank)
	wrong(t, api.ErrEnd, longest[1:]+"'", ">"+blank[1:])
	wrong(t, api.ErrForm, longest[1:]+"&")
}

// P17.1: quotes that do not end, and redirections without a word.
func TestEnd(t *testing.T) {
	wrong(t, api.ErrEnd,
		"'", `"`, `\`, "echo 'a", `echo "a\"`, `a \`, "a; 'b", `a && "b; c`,
		"<", ">", ">>", "a <", "a > ", "a >> \t", "a > ;", "a>;b", "a < && b", "a >|| b", "> > f", "> >> f", ">>>f", "<>f", "<<f", "a > f <",
	)
}

// P17.1: a fault at the end is told ahead of one of form, wherever it stands.
func TestEndAheadOfForm(t *testing.T) {
	wrong(t, api.ErrEnd,
		"a & 'b", "a | >", "; 'b", ";; >", "&& >", "a && && <", "a & b | c ; ; d >", `| \`, "a >& b", "a > | b", "a > ;; b",
		"'a &", "> && &", "a || ; <",
	)
}

// P17.1: empty commands, and single signs.
func TestForm(t *testing.T) {
	wrong(t, api.ErrForm,
		";", "&&", "||", " ; ", ";a", "&&a", "|| a", "a;;", "a;;b", "a ; ; b", "a && ; b", "a ; && b", "a && && b", "a && || b", "a||;",
		"a &&", "a ||", "a && ", "a; b &&", "a;b;;",
		"&", "|", "a & b", "a | b", "a &", "a|", "a &&& b", "a ||| b", "&a", "a &| b", "a |& b", "a &> f", "a;&b", "a & & b",
	)
}

// P17.1: a command may have many words.
func TestManyWords(t *testing.T) {
	many := strings.Repeat(" a", api.MaxWords+5)
	runs(t, nil, run{"echo" + many, 0, many[1:] + "\n"})
}

// P17.1, P17.2: a process is made of a line, and goes on step by step.
func TestSteps(t *testing.T) {
	for _, c := range []struct {
		line  string
		steps string // what it says, and its status, behind each step
	}{
		{"echo a", "a0"},
		{"echo a;", "a0"},
		{"echo a; false; echo b", "a0 a1 ab0"},
		{"false && echo a; echo b", "1 b0"},
		{"true || echo a || echo b; echo c", "0 c0"},
		{"false && echo a", "1 1"},
		{"true || echo a || echo b", "0 0"},
		{"false && echo a && echo b || echo c && echo d", "1 c0 cd0"},
		{"true || false && echo c", "0 c0"},
		{"exit 3; echo a", "3"},
		{"echo a; exit; echo b", "a0 a0"},
		{"false; exit; echo b", "1 1"},
		{"x || exit && echo b", "127 127"},
		{"> f", "0"},
	} {
		p, e := New(c.line)
		if e != api.OK || p.Done() || p.Status() != 0 || p.Says() != "" {
			t.Errorf("New(%q) = %v, %d", c.line, p, e)
			continue
		}
		at := store(t)
		steps := strings.Split(c.steps, " ")
		for i, want := range steps {
			done := p.Step(at)
			got := strings.ReplaceAll(p.Says(), "\n", "") + word.Join(number(p.Status()))
			if got != want || done != (i == len(steps)-1) || p.Done() != done {
				t.Errorf("%q: step %d: %q, %v, want %q", c.line, i+1, got, done, want)
			}
		}
		clock, status, says := at.Clock(), p.Status(), p.Says()
		if !p.Step(at) || !p.Done() || p.Status() != status || p.Says() != says || at.Clock() != clock {
			t.Errorf("%q steps on, though it is done", c.line)
		}
	}
}

// number is a status's text.
func number(n int) string {
	if n >= 10 {
		return number(n/10) + number(n%10)
	}
	return string(rune('0' + n))
}

// P17.2: a process without commands is done at once.
func TestNoCommands(t *testing.T) {
	for _, s := range []string{"", " ", "\t \t"} {
		p, e := New(s)
		if e != api.OK || !p.Done() || !p.Step(store(t)) || p.Status() != 0 || p.Says() != "" {
			t.Errorf("New(%q) = %v, %d", s, p, e)
		}
		if n, says, e := Run(s, store(t), 0); n != 0 || says != "" || e != api.OK {
			t.Errorf("Run(%q) = %d, %q, %d", s, n, says, e)
		}
	}
}

// P17.2: processes that New did not give.
func TestNotMade(t *testing.T) {
	at := store(t)
	for _, p := range []*Proc{nil, {}} {
		if !p.Done() || !p.Step(at) || !p.Step(nil) || p.Status() != 0 || p.Says() != "" || at.Clock() != 0 {
			t.Errorf("%v is no process", p)
		}
	}
}

// P17.2: what is said is kept up to its most.
func TestSaysMost(t *testing.T) {
	big := strings.Repeat("x", api.MaxText-3)
	files := []string{"big", big, "six", "123456"}
	runs(t, files,
		run{"cat big", 0, big},
		run{"cat big six", 0, big + "123"},
		run{"cat big; cat six; echo a", 0, big + "123"},
		run{"cat big; echo a; echo b", 0, big + "a\nb"},
		run{"cat big big big; false", 1, big + "xxx"},
		run{"cat big six none", 1, big + "123"},
	)
	turns(t, files, turn{"cat big six > f", 1, all(t, store(t, files...))}, turn{"cat big six >> six", 1, all(t, store(t, files...))})
	s := store(t, files...)
	if n, says, e := Run("echo ab >> big; echo >> big", s, 9); n != 1 || says != "" || e != api.OK {
		t.Error(n, says, e)
	}
	if text, _ := s.Read("big"); text != big+"ab\n" {
		t.Error("behind an Append that is refused: bytes", len(text))
	}
}

// P17.3: the fuel is asked for, and what is refused turns nothing.
func TestFuel(t *testing.T) {
	for _, c := range []struct {
		line string
		fuel int
	}{{"echo a", 1}, {"echo a > f; rm f; cat g", 3}, {"false && a && b", 2}, {"true || a; b", 2}, {"true || a || b || c", 2}, {"touch x; exit; b", 2}} {
		for fuel := -2; fuel < c.fuel; fuel++ {
			s := store(t, "g", "x")
			s.Notes(true)
			if n, says, e := Run(c.line, s, fuel); n != 0 || says != "" || e != api.ErrFuel {
				t.Errorf("Run(%q) with fuel %d = %d, %q, %d", c.line, fuel, n, says, e)
			}
			if s.Clock() != 1 || all(t, s) != "g=x" || len(s.Notes(false)) > 0 {
				t.Errorf("Run(%q) with fuel %d has turned the store", c.line, fuel)
			}
		}
		for fuel := c.fuel; fuel < c.fuel+4; fuel++ {
			a, b := store(t, "g", "x"), store(t, "g", "x")
			a.Notes(true)
			b.Notes(true)
			n, says, e := Run(c.line, a, fuel)
			m, told, _ := Run(c.line, b, 1<<40)
			if e != api.OK || n != m || says != told || all(t, a) != all(t, b) || a.Clock() != b.Clock() {
				t.Errorf("Run(%q) with fuel %d = %d, %q, %d", c.line, fuel, n, says, e)
			}
			if x, y := a.Notes(false), b.Notes(false); len(x) != len(y) {
				t.Errorf("Run(%q) with fuel %d notes %v, not %v", c.line, fuel, x, y)
			}
		}
	}
	if _, _, e := Run("a;", nil, -1<<63); e != api.ErrFuel {
		t.Error(e)
	}
	if _, _, e := Run("", nil, -1<<63); e != api.OK {
		t.Error(e)
	}
}

// The chapter's example.
func TestExample(t *testing.T) {
	runs(t, nil, run{"echo a b > f && cat f || false", 0, "a b\n"})
}

// Which commands run hangs on the status.
func TestOperators(t *testing.T) {
	runs(t, nil,
		run{"false", 1, ""}, run{"false;", 1, ""}, run{"false; true", 0, ""}, run{"true; false", 1, ""},
		run{"true && echo a", 0, "a\n"}, run{"false && echo a", 1, ""},
		run{"false || echo a", 0, "a\n"}, run{"true || echo a", 0, ""},
		run{"x && echo a || echo b", 0, "b\n"}, run{"true && echo a || echo b", 0, "a\n"},
		run{"true || echo a && echo b", 0, "b\n"}, run{"false && echo a; echo b", 0, "b\n"},
		run{"false || false || x || echo a && false", 1, "a\n"},
		run{"echo a&&echo b||echo c;echo d", 0, "a\nb\nd\n"},
		run{"false && exit 3 || echo a", 0, "a\n"},
	)
}

// Signs stand outside of words, also without blanks around, and not in quotes.
func TestSigns(t *testing.T) {
	runs(t, []string{"f", "F"},
		run{`echo a';'b "&&" \|\| '<'">" \>`, 0, "a;b && || <> >\n"},
		run{`echo "a'b;c" 'd"e;f' "g\";h"`, 0, "a'b;c d\"e;f g\";h\n"},
		run{"cat<f", 0, "F"}, run{"<f cat", 0, "F"}, run{"< f cat", 0, "F"}, run{"cat < 'f'", 0, "F"}, run{`cat <\f`, 0, "F"},
		run{"echo a>g b;cat g", 0, "a b\n"}, run{">g echo a b;cat g", 0, "a b\n"}, run{"echo>g a b&&cat g", 0, "a b\n"},
		run{"echo a>>g>g;echo b>>g;cat g", 0, "a\nb\n"},
		run{"echo a 2>g; cat g", 0, "a 2\n"},
		run{`echo a > 'x y;z'; cat x\ y\;z; cat "x y"';z'`, 0, "a\na\n"},
		run{"echo a\tb\t>\tg;cat\tg", 0, "a b\n"},
		run{"echo a\nb;echo c", 0, "a\nb\nc\n"},
		run{"echo a'b'<f\"g\"", 1, ""},
	)
}

// Of several inputs, or outputs, the last one counts, and the others are let be.
func TestSeveral(t *testing.T) {
	runs(t, []string{"f", "F", "g", "G"}, run{"cat < f < g", 0, "G"}, run{"cat < none < g", 0, "G"}, run{"cat < f < none", 1, ""})
	turns(t, []string{"f", "F"},
		turn{"echo a > x > f", 0, "f=a\n"}, turn{"echo a > x >> f", 0, "f=Fa\n"},
		turn{"echo a >> x > f", 0, "f=a\n"}, turn{"echo a >> f > x", 0, "f=F x=a\n"}, turn{"> x cat > y < f", 0, "f=F y=F"},
	)
}

// true, :, false, what has no word, and what is no command.
func TestPlainCommands(t *testing.T) {
	runs(t, []string{"f", "F"},
		run{"true", 0, ""}, run{"true a -b", 0, ""}, run{":", 0, ""}, run{": a b", 0, ""}, run{"true < f", 0, ""},
		run{"false", 1, ""}, run{"false a", 2, ""}, run{"false ''", 2, ""},
		run{"<f", 0, ""}, run{"<none", 1, ""}, run{"<f <none", 1, ""}, run{"false; <f", 0, ""},
		run{"x", 127, ""}, run{"x a b", 127, ""}, run{"''", 127, ""}, run{"'' a", 127, ""}, run{"True", 127, ""}, run{"echoa", 127, ""},
		run{"'echo a'", 127, ""}, run{"'tr'ue", 0, ""}, run{`e\cho a`, 0, "a\n"}, run{`"false"`, 1, ""}, run{"/bin/true", 127, ""}, run{"a=b", 127, ""},
	)
	turns(t, []string{"f", "F"},
		turn{"> f", 0, "f="}, turn{">> f", 0, "f=F"}, turn{">> g", 0, "f=F g="}, turn{"false > g", 1, "f=F g="}, turn{"x > f", 127, "f="},
		turn{"false a > g", 2, "f=F g="}, turn{"true > none/g", 1, "f=F"}, turn{"> ''", 1, "f=F"}, turn{"x >> f/g", 1, "f=F"},
	)
}

// echo says its words.
func TestEcho(t *testing.T) {
	runs(t, []string{"f", "F"},
		run{"echo", 0, "\n"}, run{"echo a", 0, "a\n"}, run{"echo   a \t b  ", 0, "a b\n"}, run{"echo '' a ''", 0, " a \n"},
		run{"echo 'a  b' \"c\td\"", 0, "a  b c\td\n"},
		run{"echo -n", 0, ""}, run{"echo -n a b", 0, "a b"}, run{"echo -n -n a", 0, "-n a"}, run{"echo a -n", 0, "a -n\n"},
		run{"echo -nn a", 0, "-nn a\n"}, run{"echo -e a", 0, "-e a\n"}, run{"echo '-n' a", 0, "a"}, run{"echo -- -n", 0, "-- -n\n"}, run{"echo ' -n'", 0, " -n\n"},
		run{"echo a < f", 0, "a\n"}, run{"echo a < none", 1, ""},
	)
}

// cat says files, or its input.
func TestCat(t *testing.T) {
	files := []string{"f", "F", "g", "G\n", "d/", ""}
	runs(t, files,
		run{"cat f", 0, "F"}, run{"cat f g f", 0, "FG\nF"}, run{"cat /f ./g d/../f", 0, "FG\nF"},
		run{"cat", 0, ""}, run{"cat < g", 0, "G\n"}, run{"cat f < g", 0, "F"}, run{"cat f < none", 1, ""},
		run{"cat none", 1, ""}, run{"cat f none g", 1, "F"}, run{"cat f d g", 1, "F"}, run{"cat d", 1, ""}, run{"cat ''", 1, ""}, run{"cat -n", 1, ""},
		run{"cat -", 1, ""}, run{"cat " + strings.Repeat("x", 256), 1, ""},
	)
	turns(t, []string{"f", "F", "g", "G"},
		turn{"cat f g > h", 0, "f=F g=G h=FG"}, turn{"cat f > f", 0, "f=F g=G"}, turn{"cat f g > f", 0, "f=FG g=G"}, turn{"cat < f >> f", 0, "f=FF g=G"},
		turn{"cat f none g > h", 1, "f=F g=G h=F"}, turn{"cat none > f", 1, "f= g=G"}, turn{"cat none >> f", 1, "f=F g=G"},
		turn{"cat g < none > f", 1, "f=F g=G"}, turn{"> h < none", 1, "f=F g=G"},
	)
}

// cp and mv take two paths.
func TestCopyAndMove(t *testing.T) {
	files := []string{"d/", "", "f", "F", "g", "G"}
	turns(t, files,
		turn{"cp f h", 0, "d/ f=F g=G h=F"}, turn{"cp f g", 0, "d/ f=F g=F"}, turn{"cp f d/h", 0, "d/ d/h=F f=F g=G"}, turn{"cp f f", 0, "d/ f=F g=G"},
		turn{"cp none f", 1, "d/ f=F g=G"}, turn{"cp f none/h", 1, "d/ f=F g=G"}, turn{"cp f d", 1, "d/ f=F g=G"}, turn{"cp d h", 1, "d/ f=F g=G"},
		turn{"mv f h", 0, "d/ g=G h=F"}, turn{"mv f g", 0, "d/ g=F"}, turn{"mv f f", 0, "d/ f=F g=G"},
		turn{"mv none f", 1, "d/ f=F g=G"}, turn{"mv f d", 1, "d/ f=F g=G"}, turn{"mv d h", 1, "d/ f=F g=G"}, turn{"mv f g/h", 1, "d/ f=F g=G"},
		turn{"cp", 2, "d/ f=F g=G"}, turn{"cp f", 2, "d/ f=F g=G"}, turn{"cp f g h", 2, "d/ f=F g=G"}, turn{"cp -f f g", 2, "d/ f=F g=G"},
		turn{"mv", 2, "d/ f=F g=G"}, turn{"mv f", 2, "d/ f=F g=G"}, turn{"mv f g d", 2, "d/ f=F g=G"},
		turn{"cp f g > h", 0, "d/ f=F g=F h="}, turn{"cp f > h", 2, "d/ f=F g=G h="},
	)
	s := store(t, files...)
	s.Notes(true)
	clock := s.Clock()
	if n, _, _ := Run("cp f f", s, 1); n != 0 || s.Clock() != clock+1 {
		t.Error("cp f f", n, s.Clock())
	}
	if l := s.Notes(false); len(l) != 2 || l[0] != (api.Touch{Kind: api.Read, Path: "/f"}) || l[1] != (api.Touch{Kind: api.Wrote, Path: "/f"}) {
		t.Error(l)
	}
}

// rm goes through its paths.
func TestRemove(t *testing.T) {
	files := []string{"d/", "", "d/e/", "", "f", "F", "g", "G"}
	turns(t, files,
		turn{"rm f", 0, "d/ d/e/ g=G"}, turn{"rm f g", 0, "d/ d/e/"}, turn{"rm d/e d", 0, "f=F g=G"}, turn{"rm d", 1, "d/ d/e/ f=F g=G"},
		turn{"rm f none g", 1, "d/ d/e/ g=G"}, turn{"rm f f", 1, "d/ d/e/ g=G"}, turn{"rm f d g", 1, "d/ d/e/ g=G"},
		turn{"rm -f none", 0, "d/ d/e/ f=F g=G"}, turn{"rm -f f none g", 0, "d/ d/e/"}, turn{"rm -f f f", 0, "d/ d/e/ g=G"}, turn{"rm -f f d g", 1, "d/ d/e/ g=G"},
		turn{"rm -f /", 1, "d/ d/e/ f=F g=G"}, turn{"rm -f f " + strings.Repeat("x", 256) + " g", 1, "d/ d/e/ g=G"}, turn{"rm -f none/x f/x", 0, "d/ d/e/ f=F g=G"},
		turn{"rm", 2, "d/ d/e/ f=F g=G"}, turn{"rm -f", 2, "d/ d/e/ f=F g=G"}, turn{"rm f -f g", 1, "d/ d/e/ g=G"}, turn{"rm -r f", 1, "d/ d/e/ f=F g=G"},
	)
	turns(t, []string{"-f", "x", "g", "G"}, turn{"rm -f -f", 0, "g=G"}, turn{"rm g -f", 0, ""}, turn{"rm ./-f", 0, "g=G"}, turn{"rm '-f' g", 0, "-f=x"})
}

// touch and mkdir go through their paths.
func TestTouchAndMkdir(t *testing.T) {
	files := []string{"d/", "", "f", "F"}
	turns(t, files,
		turn{"touch g", 0, "d/ f=F g="}, turn{"touch f d g", 0, "d/ f=F g="}, turn{"touch g none/x h", 1, "d/ f=F g="}, turn{"touch", 2, "d/ f=F"},
		turn{"touch -p", 0, "-p= d/ f=F"},
		turn{"mkdir e", 0, "d/ e/ f=F"}, turn{"mkdir e e/e d/x", 0, "d/ d/x/ e/ e/e/ f=F"}, turn{"mkdir d e", 1, "d/ f=F"}, turn{"mkdir e f g", 1, "d/ e/ f=F"},
		turn{"mkdir x/y", 1, "d/ f=F"}, turn{"mkdir f/y", 1, "d/ f=F"}, turn{"mkdir", 2, "d/ f=F"}, turn{"mkdir -p", 2, "d/ f=F"},
		turn{"mkdir -p d e", 0, "d/ e/ f=F"}, turn{"mkdir -p / .", 0, "d/ f=F"}, turn{"mkdir -p e f g", 1, "d/ e/ f=F"}, turn{"mkdir -p x/y", 1, "d/ f=F"},
		turn{"mkdir e -p", 0, "-p/ d/ e/ f=F"}, turn{"mkdir -p -p", 0, "-p/ d/ f=F"}, turn{"mkdir -f", 0, "-f/ d/ f=F"},
	)
	s := store(t, files...)
	clock := s.Clock()
	if n, _, _ := Run("touch d f", s, 1); n != 0 || s.Clock() != clock+2 {
		t.Error("touch d f", n, s.Clock())
	}
	if time, _, _ := s.Stat("d"); time != clock+1 {
		t.Error("d has the time", time)
	}
	if n, _, _ := Run("mkdir -p d", s, 1); n != 0 || s.Clock() != clock+2 {
		t.Error("mkdir -p d", n, s.Clock())
	}
}

// test asks.
func TestTest(t *testing.T) {
	files := []string{"d/", "", "f", "F", "-e", "x"}
	for line, want := range map[string]int{
		"test -e f": 0, "test -e d": 0, "test -e none": 1, "test -e f/x": 1, "test -e ''": 0, "test -e -e": 0,
		"test -f f": 0, "test -f d": 1, "test -f none": 1, "test -d f": 1, "test -d d": 0, "test -d none": 1, "test -d /": 0,
		"test -n a": 0, "test -n ''": 1, "test -n -n": 0, "test -z a": 1, "test -z ''": 0, "test -z -z": 1,
		"test a = a": 0, "test a = b": 1, "test '' = ''": 0, "test a != a": 1, "test a != b": 0, "test = = =": 0, "test -e = f": 1, "test = != =": 1, "test 1 = 01": 1,
		"test": 2, "test a": 2, "test ''": 2, "test -e": 2, "test -n": 2, "test =": 2, "test -x f": 2, "test a =": 2, "test = a": 2, "test a b c": 2, "test -e f g": 2,
		"test a == a": 2, "test a = a b": 2, "test ! -e f": 2, "test a=a": 2, "test -e f = f": 2, "test a '=' a": 0, "test a '= ' a": 2,
		"test -e " + strings.Repeat("x", 256): 1, "test -d " + strings.Repeat("x", 256): 1, "test -e f < none": 1,
	} {
		s := store(t, files...)
		s.Notes(true)
		if n, says, e := Run(line, s, 1); n != want || says != "" || e != api.OK || len(s.Notes(false)) > 0 || s.Clock() != 3 {
			t.Errorf("Run(%.40q) = %d, %q, %d, want %d", line, n, says, e, want)
		}
	}
}

// exit ends a line, if it is told right.
func TestExit(t *testing.T) {
	runs(t, []string{"f", "F"},
		run{"exit", 0, ""}, run{"exit; echo a", 0, ""}, run{"false; exit; echo a", 1, ""}, run{"x; exit && echo a", 127, ""},
		run{"exit 0; echo a", 0, ""}, run{"exit 7; echo a", 7, ""}, run{"exit 255; echo a", 255, ""}, run{"false; exit 0 || echo a", 0, ""},
		run{"exit 0x1f; echo a", 31, ""}, run{"exit +5; echo a", 5, ""}, run{"exit -0; echo a", 0, ""}, run{"exit 007; echo a", 7, ""}, run{"exit '3'; echo a", 3, ""},
		run{"exit 256; echo a", 0, "a\n"}, run{"exit -1; echo a", 0, "a\n"}, run{"exit x", 2, ""}, run{"exit '' || echo a", 0, "a\n"}, run{"exit 1 2; echo a", 0, "a\n"},
		run{"exit 99999999999999999999", 2, ""}, run{"exit 256 && echo a", 2, ""},
		run{"exit 3 < none; echo a", 0, "a\n"}, run{"exit 3 < f; echo a", 3, ""},
		run{"exit 3 > none/x; echo a", 1, ""},
		run{"true || exit 3; echo a", 0, "a\n"},
	)
	turns(t, nil, turn{"exit 3 > f; > g", 3, "f="}, turn{"exit 256 > f; > g", 0, "f= g="})
}

// A store that is none, or is full, answers errors.
func TestRefusedStores(t *testing.T) {
	for _, s := range []*vfs.Store{nil, {}} {
		for line, want := range map[string]int{
			"echo a": 0, "echo a > f": 1, "cat f": 1, "cat": 0, "cat < f": 1, "cp f g": 1, "mv f g": 1, "rm f": 1, "rm -f f": 1,
			"touch f": 1, "mkdir d": 1, "mkdir -p d": 1, "test -e f": 1, "test -d /": 1, "exit 4": 4, "x": 127,
		} {
			if n, _, e := Run(line, s, 9); n != want || e != api.OK {
				t.Errorf("Run(%q) = %d, %d, want %d", line, n, e, want)
			}
		}
		if _, _, e := Run("touch f; touch g", s, 1); e != api.ErrFuel {
			t.Error(e)
		}
	}
	s, _ := vfs.New(3)
	if n, says, _ := Run("echo ab > f; echo c > g; cat f", s, 9); n != 0 || says != "ab\n" || all(t, s) != "f=ab\n" {
		t.Error(n, says)
	}
	if n, _, _ := Run("echo abc > f", s, 9); n != 1 || all(t, s) != "f=ab\n" {
		t.Error(n)
	}
}

// P17.6: texts that are told in quotes are said as they are.
func TestQuoted(t *testing.T) {
	for _, s := range []string{"", "a", "a b", "it's", `"`, `\`, `\\`, "a;b", "&&", "< >", ">>", "a\nb", "\x00\xff", " ", "'", "''", "x'y\"z\\", "#", "$x", "-e"} {
		runs(t, nil, run{"echo " + word.Quote(s), 0, s + "\n"}, run{"echo -n " + word.Quote(s) + ">f;cat f", 0, s},
			run{"echo x" + word.Quote(s) + word.Quote(s), 0, "x" + s + s + "\n"}, run{word.Quote("echo") + " -n " + word.Quote(s) + "&&true", 0, s})
	}
}
