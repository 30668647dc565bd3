package parse

import (
	"slices"
	"strconv"
	"strings"
	"testing"

	"bobstay/api"
	"bobstay/path"
	"bobstay/rule"
	"bobstay/vars"
	"bobstay/vfs"
)

// short is a text for a message.
func short(s string) string {
	if len(s) > 600 {
		return s[:600] + ".. of " + strconv.Itoa(len(s)) + " bytes"
	}
	return s
}

// told are rules, with all of their fields.
func told(l []api.Rule) string {
	var s strings.Builder
	for _, r := range l {
		s.WriteString(strconv.Itoa(r.At) + toldWords(r.Targets) + []string{"?", ":", "!", "::"}[max(0, min(r.Kind, 3))] + toldWords(r.Sources) + "{" + toldWords(r.Commands) + "} ")
	}
	return s.String()
}

// toldWords are words.
func toldWords(l []string) string {
	var s strings.Builder
	for _, w := range l {
		s.WriteString(strconv.Quote(w))
	}
	return s.String()
}

// toldProblem is a problem.
func toldProblem(p Problem) string {
	return p.Why.Error() + " in " + p.File + " at " + strconv.Itoa(p.At)
}

// write writes files, which are paths and texts by turns, and the directories that
// they lie in.
func write(t *testing.T, s *vfs.Store, files ...string) {
	t.Helper()
	for i := 0; i < len(files); i += 2 {
		dir := "/"
		for _, part := range path.Parts(path.Dir(files[i])) {
			dir = path.Join(dir, part)
			if e := s.Mkdir(dir); e != api.OK && e != api.ErrThere {
				t.Fatalf("Mkdir(%q): %v", dir, e)
			}
		}
		if e := s.Write(files[i], files[i+1]); e != api.OK {
			t.Fatalf("Write(%q): %v", files[i], e)
		}
	}
}

// input is one of the file /d/m, with files.
func input(t *testing.T, files ...string) Input {
	t.Helper()
	s, e := vfs.New(api.MaxRoom)
	if e != api.OK {
		t.Fatal(e)
	}
	write(t, s, files...)
	return Input{File: "/d/m", Vars: vars.New(), Store: s, Goals: []string{"all", "x.o"}, Fuel: 1000}
}

// reads holds a text to its rules, which are told as they are written.
func reads(t *testing.T, in Input, text, want string) {
	t.Helper()
	l, p := Text(text, in)
	if got := strings.TrimSpace(told(l)); got != want || p != (Problem{}) {
		t.Errorf("Text(%q) = %s, %s, want %s", short(text), short(got), toldProblem(p), short(want))
	}
}

// fails holds a text to a problem.
func fails(t *testing.T, in Input, text string, why api.Errno, file string, at int) {
	t.Helper()
	l, p := Text(text, in)
	if want := (Problem{why, file, at}); len(l) > 0 || p != want {
		t.Errorf("Text(%q) = %s, %s, want %s", short(text), short(told(l)), toldProblem(p), toldProblem(want))
	}
}

// has holds variables, which are names and values by turns, to be all of the scope
// Global.
func has(t *testing.T, in Input, pairs ...string) {
	t.Helper()
	var got []string
	for _, name := range in.Vars.Names(vars.Global) {
		value, _ := in.Vars.In(vars.Global, name)
		got = append(got, name, value)
	}
	if !slices.Equal(got, pairs) {
		t.Errorf("the variables are %s, want %s", short(toldWords(got)), short(toldWords(pairs)))
	}
}

// gives holds a text to the variables that it makes.
func gives(t *testing.T, text string, pairs ...string) {
	t.Helper()
	in := input(t)
	reads(t, in, text, "")
	has(t, in, pairs...)
}

func TestExample(t *testing.T) {
	text := "S = a b\n.for i in $S\n$i.o: $i.c\n.endfor\n"
	reads(t, input(t), text, `3"a.o":"a.c"{} 3"b.o":"b.c"{}`)
	in := input(t, "/d/m", text)
	if l, p := Read(in); p != (Problem{}) || strings.TrimSpace(told(l)) != `3"a.o":"a.c"{} 3"b.o":"b.c"{}` {
		t.Errorf("Read = %s, %s", told(l), toldProblem(p))
	}
	has(t, in, "S", "a b")
}

// P14.1: a command belongs to the dependency line last read, and stands there as it
// is.
func TestCommands(t *testing.T) {
	for text, want := range map[string]string{
		"a: b\n\tc\n":                                    `1"a":"b"{"c"}`,
		"a: b\n\tc\n\td\n":                               `1"a":"b"{"c""d"}`,
		"a: b; x\n\tc\n":                                 `1"a":"b"{"x""c"}`,
		"a b: c\n\tx\n":                                  `1"a""b":"c"{"x"}`,
		"a:\n\tc\nb:\n\td\n":                             `1"a":{"c"} 3"b":{"d"}`,
		"a:\nb:\n\td\n":                                  `1"a":{} 2"b":{"d"}`,
		"a::\n\tc\na::\n\td\n":                           `1"a"::{"c"} 3"a"::{"d"}`,
		"a!\n\t  $A ${B:x $$ # y \\# \n":                 `1"a"!{"  $A ${B:x $$ # y \\# "}`,
		"a:\n\tb \\\n\t  c \\\n d\n":                     `1"a":{"b \\\n  c \\\n d"}`,
		"a:\n\tA = b\n\t.if 0\n\t.error\n\tb: c\n":       `1"a":{"A = b"".if 0"".error""b: c"}`,
		"a:\nA = b\n\tc\n\n# x\n\td\n":                   `1"a":{"c""d"}`,
		"a:\n.if 1\n\tc\n.endif\n\td\n":                  `1"a":{"c""d"}`,
		"a:\n.if 0\n\tc\n.endif\n\td\n":                  `1"a":{"d"}`,
		"a:\n.if 0\nb:\n.endif\n\td\n":                   `1"a":{"d"}`,
		"a:\n.for i in x y\n\tc $i $$i ${i:R}\n.endfor":  `1"a":{"c x $$i ${i:R}""c y $$i ${i:R}"}`,
		".for i in x y\n$i:\n\tc $i\n.endfor\n\td\n":     `2"x":{"c x"} 2"y":{"c y""d"}`,
		"a:\n.include \"c\"\n\td\n":                      `1"a":{"of c""d"}`,
		"a:\n.include \"r\"\n\td\n":                      `1"a":{} 1"r":{"of r""d"}`,
		"a:\n.include \"r\"\n.include \"c\"\n":           `1"a":{} 1"r":{"of r""of c"}`,
		"a:\n.undef A\n.sinclude \"none\"\n\tc\n":        `1"a":{"c"}`,
		"a:\n.for i in\nb:\n.endfor\n\tc\n":              `1"a":{"c"}`,
		".PHONY: a\n\tc\n":                               `1".PHONY":"a"{"c"}`,
		"a: b;\n\tc\n":                                   `1"a":"b"{"c"}`,
		"a:\n\tc" + strings.Repeat("\n\td", 3) + "\n\tc": `1"a":{"c""d""d""d""c"}`,
	} {
		reads(t, input(t, "/d/c", "\tof c\n", "/d/r", "r:\n\tof r\n"), text, want)
	}
}

// P14.1: a command without a rule.
func TestCommandAlone(t *testing.T) {
	in := input(t, "/d/c", "\n\tc\n")
	fails(t, in, "\tc\n", api.ErrRule, "/d/m", 1)
	fails(t, in, "A = b\n\n\tc\na: b\n", api.ErrRule, "/d/m", 3)
	fails(t, in, ".if 0\na:\n.endif\n\tc\n", api.ErrRule, "/d/m", 4)
	fails(t, in, ".if 1\n\tc\n.endif\na:\n", api.ErrRule, "/d/m", 2)
	fails(t, in, ".for i in a b\n\tc\n$i:\n.endfor\n", api.ErrRule, "/d/m", 2)
	fails(t, in, ".for i in\na:\n.endfor\n\tc\n", api.ErrRule, "/d/m", 4)
	fails(t, in, "\n.include \"c\"\na:\n", api.ErrRule, "/d/c", 2)
	reads(t, in, ".if 0\n\tc\n.endif\n", "")
}

// P14.1: a line that gives a value, in each way.
func TestValues(t *testing.T) {
	gives(t, "A = b\n", "A", "b")
	gives(t, "A=b\n", "A", "b")
	gives(t, "  A\t= \t b c  # d\n", "A", "b c")
	gives(t, "A =\n", "A", "")
	gives(t, "A = b = c\n", "A", "b = c")
	gives(t, "A = x: y ! z := $B ${C} $$ ${\n", "A", "x: y ! z := $B ${C} $$ ${")
	gives(t, "A = b\nA = c\n", "A", "c")
	gives(t, "A = b\nA += c\nA+=d\nB += e\n", "A", "b c d", "B", "e")
	gives(t, "A =\nA += b\n", "A", " b")
	gives(t, "A = b\nA ?= c\nB?= d\nB ?= e\n", "A", "b", "B", "d")
	gives(t, "B = c\nA += ${B}\nC ?= $B\nB = d\n", "A", "${B}", "B", "d", "C", "$B")
	gives(t, "B = c\nA := ${B}$$x\nB = d\nC:=$A\n", "A", "c$x", "B", "d", "C", "c")
	gives(t, "A := ${B}\n", "A", "")
	gives(t, "A :=\n", "A", "")
	gives(t, "N = A\n$N = b\n$N$N=c\n${N}x += d\n${N:S/A/B:C/:C/:.*//}=e\n", "A", "b", "AA", "c", "Ax", "d", "B", "e", "N", "A")
	gives(t, "N = M\nM = A\n${$N}=b\n", "A", "b", "M", "A", "N", "M")
	gives(t, "A.b-c+ = d\nA, += e\n'A' = f\n", "'A'", "f", "A,", "e", "A.b-c+", "d")
	gives(t, "${:UA} := ${:Ub=c}\n${=!:UB} = d\n", "A", "b=c", "B", "d")
	gives(t, ".A = b\n.=c\n.include = d\n.for=e\n", ".", "c", ".A", "b", ".for", "e", ".include", "d")
	gives(t, strings.Repeat("A", 64)+" = b\n", strings.Repeat("A", 64), "b")
	gives(t, "A = b \\\n\t c\n", "A", "b  c")
}

// P14.1: what is behind stands as it is, but for blanks first, and other scopes stay.
func TestValuesScopes(t *testing.T) {
	in := input(t)
	for scope, name := range map[int]string{vars.Local: "L", vars.Command: "C", vars.Env: "E"} {
		in.Vars.Put(scope, name, "old")
	}
	reads(t, in, "L = a\nL += b\nC += c\nC += ${C}\nE ?= d\nE += e\nA := $L$C$E\n.undef L C\nL ?= x\n", "")
	has(t, in, "A", "oldolde", "E", "e")
	for scope, name := range map[int]string{vars.Local: "L", vars.Command: "C", vars.Env: "E"} {
		if value, is := in.Vars.In(scope, name); !is || value != "old" {
			t.Errorf("%s has in its scope %q, %t", name, value, is)
		}
	}
}

// P14.1: layer 7's errors at a value.
func TestValueErrors(t *testing.T) {
	long := strings.Repeat("A", 65)
	for _, text := range []string{"$$ = b", "${N} = b", "${N}=", "$N += b", "$N ?= b", "$N := b", `A\# = b`, "${:Ua}b}=c", "$W = c", "${W}x=c", "$E=c", "${:Ua=b} = c", "a(=c", "a} = c", "{a:=c", "a)?=", long + " = b", long + "+=b", "$= = b", "a$$=b", "${:Ua:}=b"} {
		in := input(t)
		in.Vars.Put(vars.Env, "W", "a b")
		in.Vars.Put(vars.Env, "E", " ")
		fails(t, in, "B = c\n\n"+text+"\n", api.ErrForm, "/d/m", 3)
		has(t, in, "B", "c")
	}
}

// P14.1: layer 7's ErrMany at a value, by its length.
func TestValueTooLong(t *testing.T) {
	half := strings.Repeat("x", 1<<15)
	for text, at := range map[string]int{
		"A := $H$H\n": 0, "A = a\nA := $H\nA += " + half[1:] + "\n": 0, "A += " + half + "\nA := $A$H": 0, "A := ${H}${H}\nA ?= b\n": 0,
		"A := $H\nA += " + half + "\n": 2, "A := $H\n\nA := a$H$H\n": 3, "A := $H\nA := $A$A$E": 2,
	} {
		in := input(t)
		in.Fuel = 1 << 20
		in.Vars.Put(vars.Env, "H", half)
		in.Vars.Put(vars.Env, "E", "e")
		want := 1 << 16
		if at > 0 {
			fails(t, in, text, api.ErrMany, "/d/m", at)
			want = 1 << 15
		} else {
			reads(t, in, text, "")
		}
		if value, _ := in.Vars.In(vars.Global, "A"); len(value) != want {
			t.Errorf("A has %d bytes, want %d", len(value), want)
		}
	}
}

// P14.1: layer 7's ErrMany at a value, by how many names there are.
func TestValuesTooMany(t *testing.T) {
	in := input(t)
	for i := range 1023 {
		in.Vars.Put(vars.Global, "v"+strconv.Itoa(i), "")
	}
	reads(t, in, "A = b\nA = c\nA += d\nA ?= e\nv7 := $A\n", "")
	for _, text := range []string{"B = c", "B += c", "B ?= c", "B := c", "B := ${"} {
		fails(t, in, text, api.ErrMany, "/d/m", 1)
	}
	reads(t, in, ".undef A\nB = c\n", "")
}

// P14.1: layer 8's errors at a value; what may not be a name is named ahead of them.
func TestValueMeans(t *testing.T) {
	in := input(t)
	in.Vars.Put(vars.Env, "L", "$L")
	for text, why := range map[string]api.Errno{
		"A := ${B":                           api.ErrEnd,
		"A := $L":                            api.ErrLoop,
		"A := ${L:}":                         api.ErrLoop,
		"$L = b":                             api.ErrLoop,
		"$L += b":                            api.ErrLoop,
		"${A:Y} = b":                         api.ErrMods,
		"${A:Y}?= b":                         api.ErrMods,
		"${A=b":                              api.ErrEnd,
		"A := ${A:Y":                         api.ErrEnd,
		"A := " + strings.Repeat("$B", 1001): api.ErrFuel,
		"$$ := ${B":                          api.ErrForm,
		"${B := $L":                          api.ErrEnd,
		"$L := ${B":                          api.ErrLoop,
	} {
		fails(t, in, "\n"+text+"\n", why, "/d/m", 2)
		has(t, in)
	}
}

// P14.1: all else is a dependency line.
func TestDependencies(t *testing.T) {
	for text, want := range map[string]string{
		"a: b c\n":                       `1"a":"b""c"{}`,
		"a b :: c\n":                     `1"a""b"::"c"{}`,
		" a!b;  c d \n":                  `1"a"!"b"{"c d"}`,
		"a:\n":                           `1"a":{}`,
		"a: x; c $A $$A\n":               `1"a":"x"{"c p q $A"}`,
		"$A: $B\n":                       `1"p""q":"r:s"{}`,
		"$B\n":                           `1"r":"s"{}`,
		"${B:S/:/!/}\n":                  `1"r"!"s"{}`,
		"x$(N:Uy:)${N:U;}z\n":            `1"xy":{"z"}`,
		"a: b=c\n":                       `1"a":"b=c"{}`,
		"a:b=c\n":                        `1"a":"b=c"{}`,
		"a!=b\n":                         `1"a"!"=b"{}`,
		"a != b\n":                       `1"a"!"=""b"{}`,
		"a::=b\n":                        `1"a"::"=b"{}`,
		"a :: = b\n":                     `1"a"::"=""b"{}`,
		"a ::= b\n":                      `1"a"::"=""b"{}`,
		"a b := c\n":                     `1"a""b":"=""c"{}`,
		"a!b = c\n":                      `1"a"!"b""=""c"{}`,
		"a b = c: d\n":                   `1"a""b""=""c":"d"{}`,
		"${N:U=}: a\n":                   `1"=":"a"{}`,
		"${N:Ua b}=c:\n":                 `1"a""b=c":{}`,
		"= a:\n":                         `1"=""a":{}`,
		".c.o: x\n":                      `1".c.o":"x"{}`,
		".c: x\n":                        `1".c":"x"{}`,
		".c : x\n":                       `1".c":"x"{}`,
		".c ! x\n":                       `1".c"!"x"{}`,
		".c!x\n":                         `1".c"!"x"{}`,
		".error: x\n":                    `1".error":"x"{}`,
		".error x: y\n":                  `1".error""x":"y"{}`,
		".error !\n":                     `1".error"!{}`,
		".include \"a:b\"\n":             `1".include""\"a":"b\""{}`,
		".include <a!b>\n":               `1".include""<a"!"b>"{}`,
		".include \"$$:\"\n":             `1".include""\"$":"\""{}`,
		".undef x::\n":                   `1".undef""x"::{}`,
		".foo x :\n":                     `1".foo""x":{}`,
		".PHONY: a\n":                    `1".PHONY":"a"{}`,
		" .error: b\n":                   `1".error":"b"{}`,
		"a:\na: b\na: c\n":               `1"a":{} 2"a":"b"{} 3"a":"c"{}`,
		"\n\na: b \\\n c \\\n d\n\ne: f": `3"a":"b""c""d"{} 7"e":"f"{}`,
		"\x00\xff: \n":                   `1"\x00\xff":{}`,
		"a: # b\n":                       `1"a":{}`,
		`a\#: b` + "\n":                  `1"a#":"b"{}`,
	} {
		in := input(t)
		in.Vars.Put(vars.Env, "A", "p q")
		in.Vars.Put(vars.Env, "B", "r:s")
		reads(t, in, text, want)
		has(t, in)
	}
	reads(t, input(t), "", "")
	reads(t, input(t), "\n \n# a\n\t\n", "")
}

// P14.1: layer 13's errors, and layer 8's, at a dependency line.
func TestDependencyErrors(t *testing.T) {
	in := input(t)
	in.Vars.Put(vars.Env, "E", "")
	in.Vars.Put(vars.Env, "L", "$L")
	in.Vars.Put(vars.Env, "W", strings.Repeat("w ", 4096))
	in.Fuel = 10000
	for text, why := range map[string]api.Errno{
		"a": api.ErrRule, "a b": api.ErrRule, ": a": api.ErrRule, "! a": api.ErrRule, "$E": api.ErrRule, "$E: a": api.ErrRule, "= a": api.ErrRule, "a b = c": api.ErrRule, "+= a": api.ErrRule, "include \"a\"": api.ErrRule,
		" .include \"r\"": api.ErrRule, ".c.o x": api.ErrRule, ".": api.ErrRule, "..": api.ErrRule, ".Error": api.ErrRule, "$$a": api.ErrRule, "${E:Ux}": api.ErrRule, ".(x)": api.ErrRule,
		strings.Repeat("a", 256) + ":": api.ErrRule, "a: " + strings.Repeat("a", 256): api.ErrRule,
		"$W x: y": api.ErrMany, "x: $W y": api.ErrMany,
		"a: ${b": api.ErrEnd, "a${b": api.ErrEnd, "${b:": api.ErrEnd, "$L": api.ErrLoop, "a: $L": api.ErrLoop, "a: ${E:Y}": api.ErrMods, "a: $W$W$W": api.ErrFuel, "a; b${": api.ErrEnd,
	} {
		fails(t, in, "a: b\n\n"+text+"\n", why, "/d/m", 3)
	}
	if l, p := Text(strings.Repeat("a", 255)+":$W", in); p.Why != api.OK || len(l[0].Sources) != 4096 {
		t.Errorf("Text = %s, %s", short(told(l)), toldProblem(p))
	}
	in.Fuel = 1 << 30
	in.Vars.Put(vars.Env, "H", strings.Repeat("h", 1<<15))
	fails(t, in, "a:$H$H", api.ErrMany, "/d/m", 1)
}

// P14.1: undef.
func TestUndef(t *testing.T) {
	gives(t, "A = b\nB = c\nC = d\n.undef A C\n", "B", "c")
	gives(t, "A = b\n.undef A\n.undef A B\nA ?= d\n", "A", "d")
	gives(t, "A = b\nB = c\nN = A\tB\n. undef  $N \n", "N", "A\tB")
	gives(t, "A = b\nB = c\nN = A\n.undef ${N:S/A/B/}\n", "A", "b", "N", "A")
	gives(t, "A=b\n.undef A=b\n.undef A$$ 'A' \"A\"\n", "A", "b")
	gives(t, "A=b\n'A = c\n.undef 'A A'\n", "A", "b")
	in := input(t)
	in.Vars.Put(vars.Command, "A", "x")
	reads(t, in, "A = b\n.undef A\n.ifdef A\n${A}:\n.endif\n", `4"x":{}`)
	has(t, in)
	fails(t, in, "\n.undef\n", api.ErrForm, "/d/m", 2)
	fails(t, in, "E =\n.undef $E ${E}\n", api.ErrForm, "/d/m", 2)
	fails(t, in, ".undef A ${B\n", api.ErrEnd, "/d/m", 1)
	fails(t, in, "A = b\n.undef A ${B:Y}\n", api.ErrMods, "/d/m", 2)
	has(t, in, "A", "b", "E", "")
}

// P14.1: error, and directives that are none.
func TestDirectives(t *testing.T) {
	for text, why := range map[string]api.Errno{
		".error": api.ErrFail, ".error x": api.ErrFail, ". \terror\tx y = z": api.ErrFail, ".error ${A": api.ErrFail, `.error"x"`: api.ErrFail, ".error(x)": api.ErrFail, ".error $! ${A:B!}": api.ErrFail,
		".foo": api.ErrForm, ".foo x": api.ErrForm, ".c": api.ErrForm, ".errors x": api.ErrForm, ".includes \"r\"": api.ErrForm, ".info x": api.ErrForm, ".x $A": api.ErrForm, ".foo ${A:x}": api.ErrForm, ".foo $:": api.ErrForm, ".foo a b = c": api.ErrForm, ".in(x)": api.ErrForm,
		".foo $$ $!": api.ErrForm,
	} {
		fails(t, input(t), "\n\n"+text+"\n", why, "/d/m", 3)
		reads(t, input(t), ".if 0\n"+text+"\n.endif\n", "")
	}
}

// P14.1: layers 11 and 12 at their line, ahead of all that is read.
func TestLines(t *testing.T) {
	for text, want := range map[string]Problem{
		"A = b\nB = c \\":                                   {api.ErrEnd, "/d/m", 2},
		"A = b\n.error\nC \\":                               {api.ErrEnd, "/d/m", 3},
		"A = b\n.if 1\n.for i in a\n":                       {api.ErrEnd, "/d/m", 3},
		"A = b\n\n.endif\n":                                 {api.ErrForm, "/d/m", 3},
		"A = b\n.error\n.for i\n":                           {api.ErrForm, "/d/m", 3},
		"A = b\n.if 0\n.else x\n.endif":                     {api.ErrForm, "/d/m", 3},
		"A = b\n" + strings.Repeat(".if 0\n", 33):           {api.ErrMany, "/d/m", 34},
		"A = b\n" + strings.Repeat("a:\n", 4096):            {api.ErrMany, "/d/m", 4097},
		"A = b\n" + strings.Repeat("a", api.MaxText):        {api.ErrMany, "/d/m", 0},
		strings.Repeat("#\n", 9) + "A = b\n.foo\n.endfor\n": {api.ErrForm, "/d/m", 12},
	} {
		in := input(t)
		fails(t, in, text, want.Why, want.File, want.At)
		has(t, in)
		if len(text) <= api.MaxText {
			in = input(t, "/lib/a", text)
			fails(t, in, "B = a\n.include \"lib/a\"\n", want.Why, "/lib/a", want.At)
			has(t, in, "B", "a")
		}
	}
}

// P14.1: the path that is told with a problem.
func TestProblemFile(t *testing.T) {
	long := strings.Repeat("a", 256)
	for file, want := range map[string]string{
		"": "/", ".": "/", "m": "/m", "/": "/", "a//./b/../c": "/a/c", "../x": "/x", "/a/../../b/": "/b",
		long: "/", long + "/b": "/", "/b/" + long: "/", long + "/../b": "/b", long[1:]: "/" + long[1:], "a b": "/a b", "\x00": "/\x00",
	} {
		in := input(t, "/a/c", "b: c\n")
		in.File = file
		fails(t, in, "\n.error\n", api.ErrFail, want, 2)
		fails(t, in, "a \\", api.ErrEnd, want, 1)
		reads(t, in, "a: b\n", `1"a":"b"{}`)
		if file == "a//./b/../c" {
			continue
		}
		if l, p := Read(in); len(l) > 0 || p != (Problem{api.ErrNone, want, 0}) {
			t.Errorf("Read of %q = %s, %s", file, told(l), toldProblem(p))
		}
	}
	in := input(t, "/"+long[1:]+"/r", "r:\n", "/r", "q:\n")
	in.File = long[1:] + "/" + long
	reads(t, in, ".include \"r\"\n", `1"r":{}`)
	fails(t, in, ".include \"none\"\n", api.ErrNone, "/", 1)
}

// P14.1: what the lines ahead of a problem have made of the variables stays.
func TestStays(t *testing.T) {
	in := input(t, "/d/f", "C = d\n.undef A\n.error\nD = e\n")
	fails(t, in, "A = b\nB = a\n.for i in x y\n$i = z\n.include \"f\"\n.endfor\nE = f\n", api.ErrFail, "/d/f", 3)
	has(t, in, "B", "a", "C", "d", "x", "z")
}

// P14.2: Read.
func TestRead(t *testing.T) {
	in := input(t, "/d/m", "A = b\n.include \"f\"\n", "/d/f", "$A: c\n\td\n", "/m", "root:\n")
	for _, file := range []string{"/d/m", "d/m", "d//./m", "../d/f/../m"} {
		in.File = file
		if l, p := Read(in); p != (Problem{}) || told(l) != `1"b":"c"{"d"} ` {
			t.Errorf("Read of %q = %s, %s", file, told(l), toldProblem(p))
		}
	}
	has(t, in, "A", "b")
	in.File = "m"
	if l, p := Read(in); p != (Problem{}) || told(l) != `1"root":{} ` {
		t.Errorf("Read = %s, %s", told(l), toldProblem(p))
	}
	for file, want := range map[string]string{"d": "/d", "/": "/", "": "/", "none": "/none", "d/none/": "/d/none", "/d/m/x": "/d/m/x"} {
		in.File = file
		if l, p := Read(in); len(l) > 0 || p != (Problem{api.ErrNone, want, 0}) {
			t.Errorf("Read of %q = %s, %s", file, told(l), toldProblem(p))
		}
	}
	write(t, in.Store, "/d/e", "E = f\n\n.error\n")
	in.File = "d/e"
	if l, p := Read(in); len(l) > 0 || p != (Problem{api.ErrFail, "/d/e", 3}) {
		t.Errorf("Read = %s, %s", told(l), toldProblem(p))
	}
	has(t, in, "A", "b", "E", "f")
}

// P14.3: Gives of lines that give a value.
func TestGives(t *testing.T) {
	for text, want := range map[string][3]string{
		"A = b": {"A", "=", "b"}, "A=b": {"A", "=", "b"}, "A =b": {"A", "=", "b"}, "A= b": {"A", "=", "b"}, "A=": {"A", "=", ""}, "A = ": {"A", "=", ""}, " \tA \t= \t b c \t": {"A", "=", "b c \t"},
		"A += b": {"A", "+=", "b"}, "A+=b": {"A", "+=", "b"}, "A ?= b": {"A", "?=", "b"}, "A?=b": {"A", "?=", "b"}, "A := b": {"A", ":=", "b"}, "A:=b": {"A", ":=", "b"}, "A :=": {"A", ":=", ""},
		"A == b": {"A", "=", "= b"}, "A = b = c": {"A", "=", "b = c"}, "A = b += c": {"A", "=", "b += c"}, "A=b: c!": {"A", "=", "b: c!"}, "A=:": {"A", "=", ":"}, "A=!": {"A", "=", "!"},
		"A++= b": {"A+", "+=", "b"}, "A?+=b": {"A?", "+=", "b"}, "A+?=b": {"A+", "?=", "b"}, "A+ = b": {"A+", "=", "b"}, "A+:=b": {"A+", ":=", "b"}, "++=b": {"+", "+=", "b"}, "? = b": {"?", "=", "b"},
		"${N}=b": {"${N}", "=", "b"}, "$N += b": {"$N", "+=", "b"}, "x$(N)y:=b": {"x$(N)y", ":=", "b"}, "${A:S/=/!/}=b": {"${A:S/=/!/}", "=", "b"}, "${A=b}=c": {"${A=b}", "=", "c"}, "$(A=b$(c=d))?=e": {"$(A=b$(c=d))", "?=", "e"},
		"${A=(}=b": {"${A=(}", "=", "b"}, "${A{=}=}=b": {"${A{=}=}", "=", "b"}, "$== b": {"$=", "=", "b"}, "$$=b": {"$$", "=", "b"}, "$$+=b": {"$$", "+=", "b"}, "a$:b=c": {"a$:b", "=", "c"}, "a$!b?=c": {"a$!b", "?=", "c"},
		"A = $": {"A", "=", "$"}, "A = ${b": {"A", "=", "${b"}, "A=$=": {"A", "=", "$="},
		".A = b": {".A", "=", "b"}, ".if=b": {".if", "=", "b"}, ".error = x": {".error", "=", "x"},
		"\n=b": {"\n", "=", "b"}, "A\n=\nb": {"A\n", "=", "\nb"}, "\xff=\xff": {"\xff", "=", "\xff"}, "A=\x00": {"A", "=", "\x00"}, "'=b": {"'", "=", "b"}, `\=b`: {`\`, "=", "b"}, "A\v=b": {"A\v", "=", "b"}, "#=#": {"#", "=", "#"},
	} {
		if name, operator, value := Gives(text); [3]string{name, operator, value} != want {
			t.Errorf("Gives(%q) = %q, %q, %q, want %q", text, name, operator, value, want)
		}
	}
}

// P14.3: Gives of lines that give none.
func TestGivesNone(t *testing.T) {
	for _, text := range []string{
		"", " ", "\t", "A", "a: b", "a:", "=", " = ", "= b", "=b", "+=", "+= b", "?=b", ":=", " := b", "\t+=b", "==", "=A=b",
		"a b = c", "a b=c", "a\tb = c", "A + = b", "A : = b", "A b += c", "'a b'=c", `a\ b=c`, "${a b}=c", "$(a\tb) := c",
		"a: b = c", "a:b=c", "a:b = c", "a ::= b", "a::=b", "a !=b", "a!=b", "a!b=c", "! = a", "a!:=b", "a:+=b", "a:?=b", ":a=b", ": = b", "a:${b}=c", "${a}:${b}=c",
		"${a=b}", "$(a=b): c", "$=", "a $= b", "${a=b", "a${ = b", "$(a$(=)+= b", "${${a}=b", "x${a:S/=/b/}y", "${${a=b}=c}", ".if a = b", ".for i in a=b", ".error a=b", ".include \"a=b\"",
	} {
		if name, operator, value := Gives(text); name != "" || operator != "" || value != "" {
			t.Errorf("Gives(%q) = %q, %q, %q", text, name, operator, value)
		}
	}
}

// P14.3: Files.
func TestFiles(t *testing.T) {
	for want, texts := range map[string][]string{
		"":                      {".PHONY: .WAIT", ".ORDER .SUFFIXES .PATH .PATH.c .MAIN .DEFAULT .BEGIN .END .INTERRUPT .NOTPARALLEL .PRECIOUS .IGNORE .SILENT .NOTMAIN .EXEC .META:"},
		"a b c":                 {"c: b", "a: c; d e", "b:: a"},
		".PATHS .c.o .path / B": {".PATHS: B .c.o", ".PHONY: .path .PATH.", "B ! / B"},
		"10 9 a a.o \xff":       {"a.o: .WAIT a 9", "\xff: 10"},
	} {
		var l []api.Rule
		for i, s := range texts {
			r, f := rule.Parse(s, i)
			if f != (api.Fault{}) {
				t.Fatal(s, f)
			}
			l = append(l, r)
		}
		before := told(l)
		got := Files(l)
		if strings.Join(got, " ") != want || told(l) != before {
			t.Errorf("Files of %q = %q", texts, got)
		}
		for i := range got {
			got[i] = "turned"
		}
		if told(l) != before {
			t.Errorf("Files of %q shares with what it was handed", texts)
		}
	}
	if got := Files([]api.Rule{{}, {Targets: []string{"", "b", ""}, Commands: []string{"c"}}, {Sources: []string{"a\nb"}}}); !slices.Equal(got, []string{"", "a\nb", "b"}) {
		t.Errorf("Files = %q", got)
	}
	if got := Files(nil); len(got) > 0 {
		t.Errorf("Files of none = %q", got)
	}
}
