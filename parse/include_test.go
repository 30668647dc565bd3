package parse

import (
	"slices"
	"strconv"
	"strings"
	"testing"

	"bobstay/api"
	"bobstay/vars"
)

// P14.1: of the places at which a file may lie, the first one at which one does.
func TestIncludePlaces(t *testing.T) {
	here := []string{"/d/f", "d:\n", "/f", "root:\n", "/mk/f", "mk:\n", "/d/e/f", "e:\n", "/e/f", "re:\n", "/mk/e/f", "me:\n", "/d/mk/f", "dm:\n", "/only", "only:\n", "/mk/far", "far:\n", "/d/g/x", "", "/g", "g:\n", "/mk/g/x", "", `/d/a"b`, "quote:\n", "/d/a b", "blank:\n", "/d/>", "sharp:\n"}
	for text, want := range map[string]string{
		`"f"`: "d", "<f>": "mk", `"e/f"`: "e", "<e/f>": "me", `"./f"`: "d", `"../f"`: "root", "<../f>": "root", "<../d/f>": "d", `"../../../f"`: "root", `"../d/e/../f"`: "d", `"mk/f"`: "dm", `"../mk/f"`: "mk",
		`"only"`: "only", `"d/f"`: "d", `"mk/far"`: "far", "<far>": "far", `"/only"`: "only", `"/d/f"`: "d", `"/mk/f"`: "dm", `"/f"`: "d", "</f>": "mk", `"g"`: "g", `"e//f"`: "e", `"f/"`: "d",
		`"a"b"`: "quote", `"a b"`: "blank", `">"`: "sharp", `"$F"`: "d", "<${F}>": "mk", "$Q": "d", "${:U<}f$G": "mk", `"${F:S/f/only/}"`: "only", `"$E$F"`: "d", `"f$E"`: "d", "${:U<f>}": "mk", `"e$S$F"`: "e",
	} {
		for _, line := range []string{".include " + text, ".sinclude " + text, ".  include\t" + text + "  # x", ".if 1\n.include " + text + "\n.endif"} {
			in := input(t, here...)
			for i, value := range []string{"f", `"f"`, ">", "", "/"} {
				in.Vars.Put(vars.Env, string("FQGES"[i]), value)
			}
			reads(t, in, line+"\n", `1"`+want+`":{}`)
		}
	}
	for _, line := range []string{`.include"f"`, `.sinclude"f"`} {
		reads(t, input(t, here...), line, `1"d":{}`)
	}
}

// P14.1: an include of no file.
func TestIncludeNone(t *testing.T) {
	for _, text := range []string{`"none"`, "<none>", "<only>", `"e"`, "<e>", `""`, "<>", `"/"`, `".."`, `"f/x"`, `"none/../../none"`, `"f g"`, `"f" "f"`, `" f"`, `"f "`, "<f >", `"` + strings.Repeat("a", 256) + `"`, "<" + strings.Repeat("a", 256) + ">", `"$$F"`, `"'f'"`, `"\f"`} {
		in := input(t, "/d/f", "d:\n", "/mk/f", "mk:\n", "/mk/e/x", "", "/d/e/x", "", "/e/x", "", "/only", "")
		fails(t, in, "A = b\na: b\n.include "+text+"\nA = c\n", api.ErrNone, "/d/m", 3)
		has(t, in, "A", "b")
		reads(t, in, "a: b\n.sinclude "+text+"\nA = c\nc: d\n", `1"a":"b"{} 4"c":"d"{}`)
		has(t, in, "A", "c")
	}
}

// P14.1: an include whose text may not be.
func TestIncludeForm(t *testing.T) {
	for _, text := range []string{"", "f", `"`, `"f`, `f"`, "<", ">", "<f", "f>", `"f>`, `<f"`, "'f'", "(f)", `"f" x`, `x "f"`, `<f> x`, `"f"$S`, "$F", "$$", `"f"'`, "${:U\"}", "$E"} {
		in := input(t, "/d/f", "d:\n", "/mk/f", "mk:\n")
		in.Vars.Put(vars.Env, "F", "f")
		in.Vars.Put(vars.Env, "S", " ")
		in.Vars.Put(vars.Env, "E", "")
		fails(t, in, "a: b\n.include "+text+"\n", api.ErrForm, "/d/m", 2)
		fails(t, in, "\n\n.sinclude "+text+"\n", api.ErrForm, "/d/m", 3)
	}
	for text, why := range map[string]api.Errno{`"${f"`: api.ErrEnd, "<${f:Y}>": api.ErrMods, `"$L"`: api.ErrLoop} {
		in := input(t)
		in.Vars.Put(vars.Env, "L", "$L")
		fails(t, in, "\n.include "+text+"\n", why, "/d/m", 2)
		fails(t, in, "\n.sinclude "+text+"\n", why, "/d/m", 2)
	}
}

// P14.1: an included file is read where it is included: with the variables and the
// rules of the lines ahead.
func TestIncludeShares(t *testing.T) {
	in := input(t, "/d/f", "\tc $A\nB := $A\nA = f\n.if target(a) && commands(a) && !target(b)\nf$A: b\n.endif\n")
	reads(t, in, "A = m\na:\n.include \"f\"\n\td\n.if target(ff)\nb: $A $B\n.endif\n", `2"a":{"c $A"} 5"ff":"b"{"d"} 6"b":"f""m"{}`)
	has(t, in, "A", "f", "B", "m")
	// A name of a for is bound in its own lines alone.
	in = input(t, "/d/f", "f$i: $A\nA += y\n", "/d/gz", "g$i:\n")
	reads(t, in, "A = z\n.for i in x y\n.include \"f\"\n.endfor\n.for i in z\n.include \"g$i\"\n.endfor", `1"f":"z"{} 1"f":"z""y"{} 1"g":{}`)
}

// P14.1: a " means the directory of the file that is read, which is not always the
// first one's.
func TestIncludeNested(t *testing.T) {
	in := input(t, "/d/e/f", ".include \"g\"\n.include \"../h\"\n.include <i>\n.include \"g\"\n", "/d/e/g", "e$N:\nN = x\n", "/d/g", "wrong:\n", "/d/h", "h:\n.include \"g2\"\n", "/d/g2", "g2:\n", "/d/e/g2", "wrong:\n", "/mk/i", "i:\n.include \"j\"\n", "/mk/j", "j:\n", "/d/e/j", "wrong:\n", "/d/j", "wrong:\n")
	reads(t, in, ".include \"e/f\"\n.include \"h\"\n", `1"e":{} 1"h":{} 1"g2":{} 1"i":{} 1"j":{} 1"ex":{} 1"h":{} 1"g2":{}`)
	fails(t, input(t, "/d/e/f", "\n.include \"g\"\n", "/d/e/g", "a:\n\n.include \"h\"\n", "/d/h", ""), ".include \"e/f\"\n", api.ErrNone, "/d/e/g", 3)
	fails(t, input(t, "/d/e/f", ".include \"g\"\n.foo\n", "/d/e/g", ""), "\n\n.sinclude \"e/f\"\n", api.ErrForm, "/d/e/f", 2)
	fails(t, input(t, "/mk/f", ".sinclude \"g\"\n", "/mk/g", "x\n"), "\n\n.sinclude <f>\n", api.ErrRule, "/mk/g", 1)
}

// P14.1: an include that is the 17th within one another.
func TestIncludeLoop(t *testing.T) {
	in := input(t, "/d/m", "A += x\n\n.include \"m\"\n.error\n")
	in.Store.Notes(true)
	if l, p := Read(in); len(l) > 0 || p != (Problem{api.ErrLoop, "/d/m", 3}) {
		t.Errorf("Read = %s, %s", told(l), toldProblem(p))
	}
	if got := in.Store.Notes(false); len(got) != 17 {
		t.Errorf("%d times a file is read", len(got))
	}
	has(t, in, "A", strings.TrimSpace(strings.Repeat("x ", 17)))

	var files []string
	for i := range 16 {
		files = append(files, "/d/f"+strconv.Itoa(i), "A += "+strconv.Itoa(i)+"\n.sinclude \"f"+strconv.Itoa(i+1)+"\"\nf"+strconv.Itoa(i)+":\n")
	}
	in = input(t, files...)
	l, p := Text(".include \"f0\"\n.include \"f1\"\nm:\n", in)
	if p != (Problem{}) || len(l) != 32 || l[0].Targets[0] != "f15" || l[15].Targets[0] != "f0" || l[16].Targets[0] != "f15" || l[31].Targets[0] != "m" {
		t.Errorf("Text = %s, %s", told(l), toldProblem(p))
	}
	// The 17th one is told of only where there is such a file, and its text may be.
	write(t, in.Store, "/d/f15", "\n.include \"f16\"\n")
	fails(t, in, ".include \"f0\"\n", api.ErrNone, "/d/f15", 2)
	write(t, in.Store, "/d/f15", "\n.include f16\n", "/d/f16", "")
	fails(t, in, ".include \"f0\"\n", api.ErrForm, "/d/f15", 2)
	write(t, in.Store, "/d/f15", "\n\n.sinclude \"f16\"\n")
	fails(t, in, ".include \"f0\"\n", api.ErrLoop, "/d/f15", 3)
	reads(t, in, ".include \"f15\"\n", "")
	write(t, in.Store, "/d/f15", ".if 0\n.include \"f16\"\n.endif\nx:\n")
	if l, p := Text(".include \"f0\"\n", in); p != (Problem{}) || len(l) != 16 {
		t.Errorf("Text = %s, %s", told(l), toldProblem(p))
	}
	guarded := input(t, "/d/m", ".ifndef M\nM = x\n.include \"m\"\nm:\n.endif\n")
	if l, p := Read(guarded); p != (Problem{}) || told(l) != `4"m":{} ` {
		t.Errorf("Read = %s, %s", told(l), toldProblem(p))
	}
}

// P14.1: what is read is noted as layer 3's Read notes it, nothing else is; the
// store stays as it is.
func TestIncludeNotes(t *testing.T) {
	in := input(t, "/d/m", ".include \"f\"\n.sinclude \"none\"\n.if exists(g)\n.endif\n.include <f>\n.include \"f\"\n", "/d/f", "", "/f", "", "/mk/f", "", "/g", "")
	clock, used, all := in.Store.Clock(), in.Store.Used(), in.Store.All()
	in.Store.Notes(true)
	if _, p := Read(in); p != (Problem{}) {
		t.Fatal(toldProblem(p))
	}
	if got := in.Store.Notes(false); !slices.Equal(got, []api.Touch{{Kind: api.Read, Path: "/d/m"}, {Kind: api.Read, Path: "/d/f"}, {Kind: api.Read, Path: "/mk/f"}, {Kind: api.Read, Path: "/d/f"}}) {
		t.Errorf("noted is %v", got)
	}
	if in.Store.Clock() != clock || in.Store.Used() != used || !slices.Equal(in.Store.All(), all) {
		t.Error("the store has been turned")
	}
}
