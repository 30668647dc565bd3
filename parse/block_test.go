package parse

import (
	"slices"
	"strconv"
	"strings"
	"testing"

	"bobstay/api"
	"bobstay/vars"
	"bobstay/vfs"
)

// chosen holds branches to the one that is read, which gives the variable R its
// number, from 1 on; 0 stands for none.
func chosen(t *testing.T, in Input, want int, branches ...string) {
	t.Helper()
	text := ""
	for i, b := range branches {
		text += "." + b + "\nR = " + strconv.Itoa(i+1) + "\n"
	}
	in.Vars = in.Vars.Copy()
	reads(t, in, "R = 0\n"+text+".endif\n", "")
	if got, _ := in.Vars.In(vars.Global, "R"); got != strconv.Itoa(want) {
		t.Errorf("of %q the branch %s is read, want %d", branches, got, want)
	}
}

// P14.1: the first branch that holds.
func TestBranches(t *testing.T) {
	in := input(t)
	in.Vars.Put(vars.Env, "L", "$L")
	for _, x := range []struct {
		want     int
		branches []string
	}{
		{1, []string{"if 1"}}, {0, []string{"if 0"}}, {1, []string{"if 1", "else"}}, {2, []string{"if 0", "else"}},
		{1, []string{"if 1", "elif 1", "else"}}, {2, []string{"if 0", "elif 1", "elif 1", "else"}}, {3, []string{"if 0", "elif 0", "elif 1", "else"}}, {4, []string{"if 0", "elif 0", "elif 0", "else"}}, {0, []string{"if 0", "elif 0"}},
		{2, []string{"ifdef N", "elif defined(L)", "else"}}, {3, []string{"ifndef L", "elif !make(all)", "else"}}, {2, []string{"ifmake no", "else"}}, {2, []string{"ifnmake all", "else"}},
		{1, []string{"if(1)"}}, {1, []string{"if!0"}}, {2, []string{"if!1", "elif(1)"}}, {1, []string{`if"a"`}}, {2, []string{`if""`, `elif"a"`}},
		// What is behind the branch that is read is not asked.
		{1, []string{"if 1", "elif ${L}", "elif (", "elif", "else"}}, {2, []string{"if 0", "elif 1", "elif ${"}}, {1, []string{"ifdef L", "elif ${L:Y}"}},
	} {
		chosen(t, in, x.want, x.branches...)
	}
}

// P14.1: if asks layer 10, in the world of this file.
func TestIf(t *testing.T) {
	in := input(t, "/d/m", "", "/a", "")
	in.Vars.Put(vars.Command, "C", "3")
	for text, want := range map[string]int{
		"defined(C) && ${C} > 2": 1, "${C} > 3": 0, "defined(R) && $R == 0": 1, "defined(N)": 0, "empty(N)": 1, "empty(C:M4)": 1, "empty(C)": 0,
		"make(all)": 1, "make(*.o)": 1, "make(m)": 0, "exists(/a) && exists(a)": 1, "exists(m)": 0, "exists(/d/m)": 1, "target(all)": 0, `"a b" == "a b"`: 1, "${C:S/3/=/} == \"=\"": 1,
	} {
		chosen(t, in, want, "if "+text)
		chosen(t, in, 2*want, "if 0", "elif "+text)
	}
	in.Goals = nil
	chosen(t, in, 0, "if make(*)")
}

// P14.1: the targets, and those with commands, of all rules so far.
func TestIfTargets(t *testing.T) {
	in := input(t, "/d/f", "\tof f\ne: f\n\tx\n")
	ask := ".for t in a b c d e f\n.if target($t)\nT += $t\n.endif\n.if commands($t)\nC += $t\n.endif\n.endfor\nT += ,\nC += ,\n"
	reads(t, in, ask+"a b:\nc: d; x\n"+ask+"d:\n"+ask+"\tx\n\ty\n"+ask+"a:\n.include \"f\"\n"+ask+"e:; x\n.if 0\nf:\n.endif\n"+ask,
		`11"a""b":{} 12"c":"d"{"x"} 23"d":{"x""y"} 46"a":{"of f"} 2"e":"f"{"x"} 58"e":{"x"}`)
	if got, want := value(in, "T"), ", a b c , a b c d , a b c d , a b c d e , a b c d e ,"; got != want {
		t.Errorf("the targets are %q, want %q", got, want)
	}
	if got, want := value(in, "C"), ", c , c , c d , a c d e , a c d e ,"; got != want {
		t.Errorf("those with commands are %q, want %q", got, want)
	}
	// Those of another text are none of this one.
	reads(t, in, ".if target(a)\nA = b\n.endif\n", "")
	if _, is := in.Vars.Get("A"); is {
		t.Error("a is a target of a text that has none")
	}
}

// value is a variable's value in the scope Global.
func value(in Input, name string) string {
	s, _ := in.Vars.In(vars.Global, name)
	return s
}

// P14.1: ifdef and ifndef.
func TestIfdef(t *testing.T) {
	in := input(t)
	for i, name := range []string{"L", "C", "G", "E"} {
		in.Vars.Put(vars.Local+i, name, "")
	}
	in.Vars.Put(vars.Env, "P", "C")
	in.Vars.Put(vars.Env, "B", " C ")
	in.Vars.Put(vars.Env, "a)b", "")
	in.Vars.Put(vars.Env, "M*", "")
	in.Vars.Put(vars.Env, "A!", "")
	for text, want := range map[string]int{
		"L": 1, "C": 1, "G": 1, "E": 1, "R": 1, "$P": 1, "${P}": 1, "$P$P": 0, "${P:S/C/N/}": 0, "${N:UC}": 1, "$E": 0, "": 0, "N": 0, "C N": 0, "N C": 0, "C C": 0, "$B": 1, "C$E": 1, "C $E": 1, "M*": 1, "C*": 0, "?": 0, "(C)": 0, `"C"`: 0, "!C": 0, "$$C": 0, "c": 0, "${P:DC}": 1, "C:x": 0, "A!": 1,
	} {
		chosen(t, in, want, "ifdef "+text)
		chosen(t, in, 1-want, "ifndef "+text)
		chosen(t, in, 1+want, "ifndef "+text, "else")
	}
}

// P14.1: ifmake and ifnmake.
func TestIfmake(t *testing.T) {
	in := input(t)
	in.Goals = []string{"all", "x.o", "a)b", "$A", "${", " ", "a b", "", `\`}
	in.Vars.Put(vars.Env, "P", "*.o")
	in.Vars.Put(vars.Env, "S", " ")
	in.Vars.Put(vars.Env, "E", "")
	for text, want := range map[string]int{
		"all": 1, "x.o": 1, "y.o": 0, "*.o": 1, "?.o": 1, "a?": 0, "[a-c]*l": 1, "[!a-x]*": 1, "al": 0, "ll": 0, "a*": 1, "*": 1, "$P": 1, "${P:S/o/c/}": 0, "${N:Uall}": 1, "a)b": 1, "a)?": 1, "a)c": 0, "(all)": 0, `"all"`: 0,
		"$$A": 1, "$$B": 0, "$${": 1, "$$$${": 0, "$S": 1, "$S$S": 0, "a b": 1, "a c": 0, "all x.o": 0, "$E": 1, "": 1, "all$S": 0, `\a\l\l`: 1, `\\`: 1, "!": 0,
	} {
		chosen(t, in, want, "ifmake "+text)
		chosen(t, in, 1-want, "ifnmake "+text)
		chosen(t, in, 1+want, "ifnmake "+text, "else")
	}
	in.Goals = nil
	chosen(t, in, 0, "ifmake *")
	chosen(t, in, 1, "ifnmake *")
	// What the pattern means takes fuel; asking for it takes none.
	in.Goals = []string{"a", strings.Repeat("g", 5000)}
	in.Fuel = 0
	chosen(t, in, 1, "ifmake "+strings.Repeat("g", 5000))
	chosen(t, in, 1, "ifmake a")
}

// P14.1: what is wrong with a condition is told at its own line, without its byte.
func TestConditionErrors(t *testing.T) {
	in := input(t)
	in.Vars.Put(vars.Env, "L", "$L")
	in.Vars.Put(vars.Env, "A", "a")
	for text, why := range map[string]api.Errno{
		"": api.ErrCond, "(": api.ErrCond, "1 1": api.ErrCond, "1 && (1 || ": api.ErrCond, "$A > 3": api.ErrCond, "1 && $A < 3": api.ErrCond, "${": api.ErrCond,
		strings.Repeat("!", 33) + "1": api.ErrMany, "$L": api.ErrLoop, "1 && ${A:Y}": api.ErrMods, "empty(A:Y)": api.ErrMods, strings.Repeat("$A", 501) + " == b": api.ErrFuel,
	} {
		fails(t, in, "a:\n.if "+text+"\n.endif\n", why, "/d/m", 2)
		fails(t, in, "a:\n.if 0\n.elif 0\n\n.elif "+text+"\n.else\n.endif\n", why, "/d/m", 5)
		fails(t, in, ".for i in a\n.if 0\n.elif "+text+"\n.endif\n.endfor\n", why, "/d/m", 3)
	}
	for text, why := range map[string]api.Errno{"${": api.ErrEnd, "$L": api.ErrLoop, "${A:Y}": api.ErrMods, strings.Repeat("$A", 501): api.ErrFuel} {
		for _, word := range []string{"ifdef", "ifndef", "ifmake", "ifnmake"} {
			fails(t, in, "\n."+word+" "+text+"\n.else\n.endif\n", why, "/d/m", 2)
		}
	}
}

// P14.1: the words of a for's list, as many for each round as it has names.
func TestFor(t *testing.T) {
	for text, want := range map[string]string{
		".for i in a b\n$i: ${i}.c $(i)\n.endfor\n":                                 `2"a":"a.c""a"{} 2"b":"b.c""b"{}`,
		".for i j in a b c d\n$i: $j\n.endfor\n":                                    `2"a":"b"{} 2"c":"d"{}`,
		".for j i in a b c d\n$i: $j\n.endfor\n":                                    `2"b":"a"{} 2"d":"c"{}`,
		".for a b c in $W $W $W\n$a: $b $c; ${a}$c\n.endfor\n":                      `2"x":"y""x"{"xx"} 2"y":"x""y"{"yy"}`,
		".for i in\n$i:\n.endfor\n":                                                 "",
		".for i j k in $N ${W:Mz}\n.error\n.endfor\n":                               "",
		".for i in a\n.endfor\n":                                                    "",
		".for i in 'a b' \"c\\ d\"\n$i:\n.endfor\n":                                 `2"'a":{} 2"b'":{} 2"\"c\\":{} 2"d\"":{}`,
		".for i in $W\n$i:\n\tcc $i ${W}\n\tld\n.endfor\n":                          `2"x":{"cc x ${W}""ld"} 2"y":{"cc y ${W}""ld"}`,
		".for i in a b\n.for j in $i c\n$i: $j\n.endfor\n.endfor\n":                 `3"a":"a"{} 3"a":"c"{} 3"b":"b"{} 3"b":"c"{}`,
		".for i in a b\n.for i in c\n$i: ${i}\n.endfor\n.endfor\n":                  `3"a":"a"{} 3"b":"b"{}`,
		".for i in a b c\n.if $i == b\n$i:\n.elif $i == c\nx$i:\n.endif\n.endfor\n": `3"b":{} 5"xc":{}`,
		".for i in $$W $$$$ x$$\n\\$i:; c $i\n.endfor\n":                            `2"\\$W":{"c $W"} 2"\\$$":{"c $$"} 2"\\x$":{"c x$"}`,
		".for i in $$W\na: b\n\tc $i ${i}\n.endfor\n":                               `2"a":"b"{"c $$W $$W"}`,
		".for i in a b\n$$i ${$i} $${i} ${i:R}: ${N:U$i$(i)}\n.endfor\n":            `2"$i""A""${i}":"aa"{} 2"$i""${i}":"bb"{}`,
		".for i j in $$j a\n$i: ${j}\n.endfor\n":                                    `2"$j":"a"{}`,
		".for i j in j a\n${$i}: ${$j} x\n.endfor\n":                                `2"a":"A""x"{}`,
		".for i in $W\nW = $i\n$W:\n.endfor\n":                                      `3"x":{} 3"y":{}`,
		".for i in a b\nV$i += $i\n.for j in ${V$i} c\n$i: $j\n.endfor\n.endfor\n":  `4"a":"a"{} 4"a":"c"{} 4"b":"b"{} 4"b":"c"{}`,
		".for i in a b\n.if target(a)\nW =\n.endif\n$i: $W\n.endfor\n":              `5"a":"x""y"{} 5"b":{}`,
		".for i in .if .error\n$i:\n.endfor\n":                                      `2".if":{} 2".error":{}`,
		".for i in 1 0\n.if $i\na: $i\n.else\nb: $i\n.endif\n.endfor\n":             `3"a":"1"{} 5"b":"0"{}`,
		".for i in ${W:O:u:S/x/z/}\n$i:\n.endfor\n":                                 `2"z":{} 2"y":{}`,
	} {
		in := input(t)
		in.Vars.Put(vars.Env, "W", "x y")
		in.Vars.Put(vars.Env, "a", "A")
		reads(t, in, text, want)
	}
}

// P14.1: bound lines are built anew: they may open, part and close blocks, and be
// what others were not.
func TestForBuilt(t *testing.T) {
	in := input(t, "/d/A", "f:\n")
	reads(t, in, ".for o e in for endfor\n.$o j in a b\n$o: $e ${j}\n.$e\n.endfor", `3"for":"endfor""a"{} 3"for":"endfor""b"{}`)
	reads(t, in, ".for o e in ifdef endif ifndef endif\n.$o N\na: $o\n.$e\n.endfor", `3"a":"ifndef"{}`)
	reads(t, in, ".for w in else\n.if 0\na:\n.$w\nb: $w\n.endif\n.endfor", `5"b":"else"{}`)
	reads(t, in, ".for x in = += ?=\nA $x b\n.endfor\n.for x in : ! ::\na $x b\n.endfor\n", `5"a":"b"{} 5"a"!"b"{} 5"a"::"b"{}`)
	has(t, in, "A", "b b")
	reads(t, in, ".for x in undef include\n.$x \"A\"\n.endfor\n", `1"f":{}`)
	deep := ".for x e in if endif\n" + strings.Repeat(".if 1\n", 31)
	reads(t, in, deep+".$x 1\na:\n.$e\n"+strings.Repeat(".endif\n", 31)+".endfor", `34"a":{}`)
	fails(t, in, deep+".$x 1\n.$x 1\na:\n.$e\n.$e\n"+strings.Repeat(".endif\n", 31)+".endfor", api.ErrMany, "/d/m", 34)
	// Blocks that bound lines alone open are built by themselves, so that more of
	// them than layer 12's 32 may lie within one another.
	chain := ".for a1 b1 in for endfor\n"
	for i := range 40 {
		n, next := strconv.Itoa(i+1), strconv.Itoa(i+2)
		chain += ".${a" + n + "} a" + next + " b" + next + " in for endfor\n"
	}
	chain += "x: ${a41}\n"
	for i := range 40 {
		chain += ".${b" + strconv.Itoa(40-i) + "}\n"
	}
	reads(t, in, chain+".endfor\n", `42"x":"for"{}`)
}

// P14.1: layer 12's faults of bound lines, at their lines; the rounds ahead have been
// read.
func TestForBuiltErrors(t *testing.T) {
	for text, want := range map[string]Problem{
		"\n.for x in endif\n\n.$x\n.endfor":                               {api.ErrForm, "/d/m", 4},
		"A = b\n.for x in if\n\n.$x 1\n.endfor":                           {api.ErrEnd, "/d/m", 4},
		".for x in undef endfor\n.if 0\n.foo\n.endif\n\n.${x} A\n.endfor": {api.ErrForm, "/d/m", 6},
		".for x in error\n\n.$x\n.endfor":                                 {api.ErrFail, "/d/m", 3},
		".for x in foo\n.if 1\n.$x\n.endif\n.endfor":                      {api.ErrForm, "/d/m", 3},
		".for x in for\n.if 0\n.$x i\n.endif\n.endfor":                    {api.ErrForm, "/d/m", 3},
		".for x in else\n.if 1\n\n.else\n.$x\n.endif\n.endfor":            {api.ErrForm, "/d/m", 5},
		".for x in if\n.for i in\n.endfor\n.$x 1\n.$x 1\n.endfor":         {api.ErrEnd, "/d/m", 5},
	} {
		fails(t, input(t), text, want.Why, want.File, want.At)
		in := input(t, "/d/f", "\n"+text)
		fails(t, in, ".include \"f\"", want.Why, "/d/f", want.At+1)
	}
	in := input(t)
	fails(t, in, ".for x y in b = if !\n\nA += $x\n.$x$y 1\n.endfor\n", api.ErrEnd, "/d/m", 4)
	has(t, in, ".b", "1", "A", "b")
}

// P14.1: a for whose words do not come out even, and one whose list means nothing.
func TestForErrors(t *testing.T) {
	in := input(t)
	in.Vars.Put(vars.Env, "L", "$L")
	in.Vars.Put(vars.Env, "W", "a b c")
	for text, why := range map[string]api.Errno{
		".for i j in a": api.ErrForm, ".for i j in $W": api.ErrForm, ".for i j k in a b c d": api.ErrForm, ".for i j in 'a b' c": api.ErrForm,
		".for i in $L": api.ErrLoop, ".for i in ${W": api.ErrEnd, ".for i in a ${W:Y}": api.ErrMods, ".for i in " + strings.Repeat("$W ", 251): api.ErrFuel, ".for i j in a $L": api.ErrLoop,
	} {
		fails(t, in, "\nA = b\n"+text+"\n\nA = c\n.endfor\nA = d\n", why, "/d/m", 3)
		has(t, in, "A", "b")
		reads(t, in, ".if 0\n"+text+"\n.endfor\n.endif\n", "")
	}
	in.Fuel = 1 << 20
	in.Vars.Put(vars.Env, "H", strings.Repeat("h", 1<<15))
	fails(t, in, ".for i in $H $H\n.endfor\n", api.ErrMany, "/d/m", 1)
}

// P14.1: each use of layers 8 and 10 has all of the fuel.
func TestFuel(t *testing.T) {
	in := input(t)
	in.Vars.Put(vars.Env, "A", "abcd")
	in.Vars.Put(vars.Env, "Q", "\"f\"")
	lines := []string{"$A: x", "x: $A", "X$A = x", "X := $A", "X$A := $A", ".if $A == abcd && $A != $A || defined($A)\n.endif", ".ifdef $A\n.endif", ".ifnmake $A\n.endif", ".if 0\n.elif $A\n.endif", ".for i in $A\n.endfor", ".undef $A", ".sinclude \"$A\""}
	in.Fuel = 5
	all := strings.Join(lines, "\n") + "\n"
	if _, p := Text(all+all, in); p != (Problem{}) {
		t.Errorf("Text = %s", toldProblem(p))
	}
	for _, fuel := range []int{4, 1, 0, -1, -1 << 63} {
		in.Fuel = fuel
		for _, l := range lines {
			at := 2
			if strings.HasPrefix(l, ".if 0") {
				at = 3
			}
			fails(t, in, "\n"+l+"\n", api.ErrFuel, "/d/m", at)
		}
		reads(t, in, "a: $$\nX = $A\nX += $A\n\n.if 1\n.for i in a\n$i:\n.endfor\n.endif\n\t$A\n.sinclude \"a\"\n", `1"a":"$"{} 7"a":{"$A"}`)
	}
}

// steps holds a text to taking a number of steps, by lines ahead of it that take
// all but as many as are left: with one step less left the last one is told at a
// line of a file.
func steps(t *testing.T, in Input, text string, n int, file string, at int) {
	t.Helper()
	for left, ok := range map[int]bool{n: true, n - 1: false} {
		// A for of k rounds with one line takes 2k + 1 steps, one more line one more.
		ahead := 20000 - left
		begin := ".for i in " + strings.Repeat("i ", (ahead-1)/2) + "\n.undef $i\n.endfor\n"
		if ahead%2 == 0 {
			begin += ".undef i\n"
		}
		begin += strings.Repeat("\n", 9-strings.Count(begin, "\n"))
		_, p := Text(begin+text, in)
		if want := (Problem{api.ErrFuel, file, at}); ok && p != (Problem{}) || !ok && p != want {
			t.Errorf("Text of all but %d steps and %q: %s", left, short(text), toldProblem(p))
		}
	}
}

// P14.1: the 20001st step. The lines begin at 10.
func TestSteps(t *testing.T) {
	in := input(t, "/d/f", "a:\n\n\tb\n", "/d/g", ".include \"f\"\n.include \"f\"\n")
	steps(t, in, "A = b\n", 1, "/d/m", 10)
	steps(t, in, "\n\n.undef b\n", 1, "/d/m", 12)
	steps(t, in, "a:\n\tb\n", 2, "/d/m", 11)
	steps(t, in, "a:\n\tb \\\n\tc\n\td\n", 3, "/d/m", 13)
	steps(t, in, ".if 1\n.endif\n", 1, "/d/m", 10)
	steps(t, in, ".if 1\na:\n.endif\n", 2, "/d/m", 11)
	steps(t, in, "a:\n.if 0\nb:\n.else\n.endif\n", 2, "/d/m", 11)
	steps(t, in, ".if 0\nb:\n.elif 0\n\n.elif 1\na:\nb:\n.else\n.endif\nc:\n", 4, "/d/m", 19)
	steps(t, in, ".for i in\na:\n.endfor\n", 1, "/d/m", 10)
	steps(t, in, ".for i in a\n.endfor\n", 2, "/d/m", 10)
	steps(t, in, "\n.for i in a b c\n.endfor\n", 4, "/d/m", 11)
	steps(t, in, ".for i in a b c\n$i:\n.endfor\n", 7, "/d/m", 11)
	steps(t, in, ".for i j in a b c d\n$i:\n$j:\n\tx\n.endfor\n", 9, "/d/m", 13)
	steps(t, in, ".for i in a b\n.if 0\nx:\n.endif\n.endfor\n", 5, "/d/m", 11)
	steps(t, in, ".for i in a b\n.for j in c d\n$i:\n.endfor\n.endfor\n", 13, "/d/m", 12)
	steps(t, in, ".for i in a b\n\n.for j in c d\n.endfor\n.endfor\n", 9, "/d/m", 12)
	steps(t, in, ".include \"f\"\n", 3, "/d/f", 3)
	steps(t, in, ".include \"f\"\na:\n", 4, "/d/m", 11)
	steps(t, in, ".include \"g\"\n", 7, "/d/f", 3)
	steps(t, in, ".sinclude \"none\"\n", 1, "/d/m", 10)
	steps(t, in, "A = b\n.undef A\nA ?= c\nA := d\n", 4, "/d/m", 13)

	// What has been read by then stays, and each text has all steps again.
	in.Fuel = 1 << 20
	for range 2 {
		in.Vars.Clear(vars.Global)
		fails(t, in, "\n.for i in "+strings.Repeat("i ", 20000)+"\nA = x\nB := $B$i\n.endfor\nC = x\n", api.ErrFuel, "/d/m", 3)
		if got := value(in, "B"); len(got) != 6666 || value(in, "A") != "x" || value(in, "C") != "" {
			t.Errorf("B has %d bytes", len(got))
		}
	}
}

// R1: calls end without a panic, also of what nobody made.
func TestNobodyMade(t *testing.T) {
	text := "A = b\n"
	for _, in := range []Input{{}, {File: strings.Repeat("a", 300), Vars: &vars.Set{}, Store: &vfs.Store{}, Goals: []string{""}, Fuel: -1}, {Vars: vars.New()}} {
		if l, p := Read(in); len(l) > 0 || p.Why != api.ErrNone || p.At != 0 {
			t.Errorf("Read = %s, %s", told(l), toldProblem(p))
		}
		for _, s := range []string{text, "A += b", "A ?= b", "A := b", "A := ${", "a: b\n\tc", ".include \"a\"", ".sinclude <a>", ".undef A", ".if exists(a)\n.endif", ".ifmake *\n.endif", ".ifdef A\n.endif", ".for i in a\n$i:\n.endfor", "\xff\x00"} {
			Text(s, in)
		}
	}
	l := []string{"a", "b"}
	in := input(t)
	in.Goals = l
	if _, p := Text(".ifmake b\nA = b\n.endif\n", in); p != (Problem{}) || value(in, "A") != "b" || !slices.Equal(l, []string{"a", "b"}) {
		t.Errorf("%s, %q", toldProblem(p), l)
	}
	in.Fuel = 1 << 20
	for _, s := range []string{strings.Repeat("${", 1<<15), strings.Repeat("${", 1<<15-1) + "=", ".foo " + strings.Repeat("${", 1<<15-4) + ":", strings.Repeat("${a:", 1<<14), strings.Repeat("${", 1<<14) + "=" + strings.Repeat("}", 1<<14) + "=b", "A = " + strings.Repeat("$(", 1<<14), strings.Repeat("=", 1<<16), strings.Repeat(":", 1<<16), strings.Repeat(".for i in i\n", 4000), strings.Repeat("$", 1<<16), ".undef " + strings.Repeat("${", 1<<14)} {
		Text(s, in)
		Gives(s)
	}
}

// R4: no two rules share anything, with one another or with what comes later.
func TestOwn(t *testing.T) {
	in := input(t)
	text := "a b: c d\n\te\n\tf\na b: c d\n\te\n\tf\n"
	l, p := Text(text, in)
	if p != (Problem{}) {
		t.Fatal(toldProblem(p))
	}
	for _, list := range [][]string{l[0].Targets, l[0].Sources, l[0].Commands} {
		for i := range list {
			list[i] = "turned"
		}
		_ = append(list, "turned")
	}
	if got := strings.TrimSpace(told(l[1:])); got != `4"a""b":"c""d"{"e""f"}` {
		t.Errorf("the second rule is %s", got)
	}
	reads(t, in, text, `1"a""b":"c""d"{"e""f"} 4"a""b":"c""d"{"e""f"}`)
}
