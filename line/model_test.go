package line

import (
	"math/rand"
	"slices"
	"strings"
	"testing"

	"bobstay/api"
)

func isBlank(c byte) bool { return c == ' ' || c == '\t' }

// open tells whether a text ends with an odd number of \.
func open(s string) bool {
	odd := false
	for i := len(s) - 1; i >= 0 && s[i] == '\\'; i-- {
		odd = !odd
	}
	return odd
}

// cut are the bytes up to a text's first byte 10, and those behind it.
func cut(s string) (raw, rest string) {
	i := 0
	for i < len(s) && s[i] != '\n' {
		i++
	}
	if i == len(s) {
		return s, ""
	}
	return s[:i], s[i+1:]
}

// model reads a text as the chapter's words go: what has come together is asked,
// as a whole, whether it goes on.
func model(s string) ([]Line, api.Fault) {
	var lines []Line
	at := 0
	for s != "" {
		var raw string
		raw, s = cut(s)
		at++
		l := Line{Text: raw, At: at}
		if raw != "" && raw[0] == '\t' {
			l.Command, l.Text = true, raw[1:]
		}
		for open(l.Text) {
			if s == "" {
				return nil, api.Fault{Why: api.ErrEnd, At: at}
			}
			raw, s = cut(s)
			at++
			l.Text = more(l, raw)
		}
		if !l.Command {
			l.Text = noted(l.Text)
		}
		if bare(l.Text) != "" {
			lines = append(lines, l)
		}
	}
	if len(lines) > api.MaxLines {
		return nil, api.Fault{Why: api.ErrMany, At: lines[api.MaxLines].At}
	}
	return lines, api.Fault{}
}

// more is the text of a line that goes on, with the next raw line.
func more(l Line, raw string) string {
	if l.Command {
		if raw != "" && raw[0] == '\t' {
			raw = raw[1:]
		}
		return l.Text + "\n" + raw
	}
	for raw != "" && isBlank(raw[0]) {
		raw = raw[1:]
	}
	return l.Text[:len(l.Text)-1] + " " + raw
}

// noted is a text without its note: a \ waits for what is behind it.
func noted(s string) string {
	var b []byte
	for i := 0; i < len(s) && s[i] != '#'; i++ {
		if s[i] == '\\' && i+1 < len(s) {
			i++
			if s[i] != '#' {
				b = append(b, '\\')
			}
		}
		b = append(b, s[i])
	}
	return bare(string(b))
}

// bare is a text without the blanks at its end.
func bare(s string) string {
	for s != "" && isBlank(s[len(s)-1]) {
		s = s[:len(s)-1]
	}
	return s
}

// every calls do with all short texts of some bytes, and with many longer ones.
func every(do func(s string)) {
	const letters = "a\\#\t \n"
	var grow func(s string)
	grow = func(s string) {
		do(s)
		for i := range letters {
			if len(s) < 6 {
				grow(s + letters[i:i+1])
			}
		}
	}
	grow("")
	r := rand.New(rand.NewSource(11))
	for range 30000 {
		do(random(r, 80))
	}
}

// random is a text of fewer than so many bytes, most of them such as lines hang on.
func random(r *rand.Rand, most int) string {
	b := make([]byte, r.Intn(most))
	for i := range b {
		switch b[i] = "ab=:\\\\#\t \n\n"[r.Intn(11)]; {
		case r.Intn(20) == 0:
			b[i] = byte(r.Intn(256))
		case i > 0 && b[i-1] == '\\' && r.Intn(3) == 0:
			b[i] = '\n'
		}
	}
	return string(b)
}

// P11.1: what the model reads.
func TestModel(t *testing.T) {
	ends, commands, joined := 0, 0, 0
	every(func(s string) {
		want, fault := model(s)
		got, f := Read(s)
		if f != fault || !slices.Equal(got, want) {
			t.Fatalf("Read(%q) = %s, %v, want %s, %v", s, told(got), f, told(want), fault)
		}
		if f.Why == api.ErrEnd {
			ends++
		}
		for _, l := range got {
			if l.Command {
				commands++
			}
			if strings.Contains(l.Text, "\n") {
				joined++
			}
		}
	})
	if min(ends, commands, joined) < 1000 {
		t.Errorf("%d open ends, %d commands, %d of them joined: too few", ends, commands, joined)
	}
}

// texts are the texts of lines.
func texts(l []Line) []string {
	var all []string
	for _, x := range l {
		all = append(all, x.Text)
	}
	return all
}

// staysSo tells whether a line is one that comes back, as it was written.
func staysSo(l Line) bool {
	return !strings.Contains(l.Text, "\n") && !strings.HasSuffix(l.Text, `\`)
}

// P11.3: read, written and read again.
func TestReadWrittenRead(t *testing.T) {
	asked, notes := 0, 0
	every(func(s string) {
		lines, _ := Read(s)
		if slices.ContainsFunc(lines, func(l Line) bool { return !staysSo(l) }) {
			return
		}
		again, f := Read(Write(lines))
		if f != (api.Fault{}) || !slices.Equal(texts(again), texts(lines)) {
			t.Fatalf("Read(%q) = %s; written and read again it is %s, %v", s, told(lines), told(again), f)
		}
		for i, l := range again {
			asked++
			if l.Command != lines[i].Command || l.At != i+1 {
				t.Fatalf("Read(%q) = %s; written and read again it is %s", s, told(lines), told(again))
			}
			if strings.Contains(l.Text, "#") {
				notes++
			}
		}
	})
	if min(asked, notes) < 1000 {
		t.Errorf("%d lines, %d of them with a #: too few", asked, notes)
	}
}

// P11.3: as many lines as may be, and as many bytes, whose ends are all there.
func TestReadWrittenReadMost(t *testing.T) {
	for _, s := range []string{
		strings.Repeat(`a\#b = ${c}   # d`+"\n", api.MaxText/18),
		strings.Repeat("\ta #\\\\b\n", api.MaxLines),
		strings.Repeat(`\#`, api.MaxText/2-1) + "b\n",
	} {
		lines, f := Read(s)
		again, f2 := Read(Write(lines))
		if f != (api.Fault{}) || f2 != f || len(lines) == 0 || !slices.Equal(texts(again), texts(lines)) {
			t.Errorf("Read(%s) = %d lines, %v; written and read again: %d lines, %v", short(s), len(lines), f, len(again), f2)
		}
	}
}

// wholeLines is a random text that ends with a whole line, or is empty.
func wholeLines(r *rand.Rand) string {
	s := random(r, 40)
	if s != "" && !strings.HasSuffix(s, "\n") {
		s += "\n"
	}
	if _, f := Read(s); f.Why == api.ErrEnd {
		s += "\n"
	}
	return s
}

// P11.4: the lines of one text behind those of another one.
func TestOneBehindTheOther(t *testing.T) {
	r := rand.New(rand.NewSource(114))
	for range 30000 {
		a, b := wholeLines(r), wholeLines(r)
		first, f := Read(a)
		second, f2 := Read(b)
		both, f3 := Read(a + b)
		want := slices.Clone(first)
		for _, l := range second {
			l.At += strings.Count(a, "\n")
			want = append(want, l)
		}
		if f != f2 || f2 != f3 || f3 != (api.Fault{}) || !Same(both, want) {
			t.Fatalf("Read(%q) = %s, %v, want %s", a+b, told(both), f3, told(want))
		}
	}
}

// P11.5: numbers rise, from 1 on, and none is past the last raw line.
func TestNumbersRise(t *testing.T) {
	every(func(s string) {
		lines, _ := Read(s)
		ahead := 0
		for _, l := range lines {
			if l.At <= ahead || l.At > strings.Count(s, "\n")+1 {
				t.Fatalf("Read(%q) = %s: the numbers do not rise", s, told(lines))
			}
			ahead = l.At
		}
	})
}
