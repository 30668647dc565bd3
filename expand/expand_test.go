package expand

import (
	"math"
	"slices"
	"strconv"
	"strings"
	"testing"

	"bobstay/api"
	"bobstay/vars"
)

// set is a set of variables: names and values by turns.
func set(t *testing.T, pairs ...string) *vars.Set {
	t.Helper()
	v := vars.New()
	for i := 0; i < len(pairs); i += 2 {
		if e := v.Put(vars.Global, pairs[i], pairs[i+1]); e != api.OK {
			t.Fatalf("Put(%q) is refused: %v", pairs[i], e)
		}
	}
	return v
}

// short is a text for a message.
func short(s string) string {
	if len(s) > 100 {
		return strconv.Quote(s[:100]) + ".. of " + strconv.Itoa(len(s)) + " bytes"
	}
	return strconv.Quote(s)
}

// means holds a text to its meaning, and to the fuel that this takes: so much is
// enough, more of it is left over, and less is too little.
func means(t *testing.T, v *vars.Set, s, want string, takes int) {
	t.Helper()
	for _, more := range []int{0, 1, 1000} {
		got, left, e := Text(s, v, takes+more)
		if got != want || left != more || e != api.OK {
			t.Errorf("Text(%s) with fuel %d = %s, %d, %v, want %s, %d", short(s), takes+more, short(got), left, e, short(want), more)
		}
	}
	for less := range takes {
		if got, left, e := Text(s, v, less); got != "" || left != 0 || e != api.ErrFuel {
			t.Errorf("Text(%s) with fuel %d = %s, %d, %v, want ErrFuel", short(s), less, short(got), left, e)
		}
	}
}

// fails holds a text to an error, which so much fuel is enough for; with less it
// is ErrFuel.
func fails(t *testing.T, v *vars.Set, s string, want api.Errno, takes int) {
	t.Helper()
	for _, more := range []int{0, 1, 1000, math.MaxInt - takes} {
		if got, left, e := Text(s, v, takes+more); got != "" || left != 0 || e != want {
			t.Errorf("Text(%s) with fuel %d = %s, %d, %v, want %v", short(s), takes+more, short(got), left, e, want)
		}
	}
	for less := range takes {
		if got, left, e := Text(s, v, less); got != "" || left != 0 || e != api.ErrFuel {
			t.Errorf("Text(%s) with fuel %d = %s, %d, %v, want ErrFuel", short(s), less, short(got), left, e)
		}
	}
}

func TestExample(t *testing.T) {
	v := set(t, "A", "x", "B", "${A}y")
	means(t, v, "${B:S/x/z/}$$", "zy$", 1+5+1+1)
	means(t, v, "${A:Uno}${C:Uno}", "xno", 2)
}

// P8.1: what is no use is itself.
func TestPlain(t *testing.T) {
	every := make([]byte, 0, 256)
	for c := range 256 {
		if c != '$' {
			every = append(every, byte(c))
		}
	}
	for s, want := range map[string]string{
		"":            "",
		"a":           "a",
		" a \t b\n":   " a \t b\n",
		"{}":          "{}",
		"}){(:":       "}){(:",
		"$$":          "$",
		"$":           "$",
		"a$":          "a$",
		"$$$":         "$$",
		"$$$$":        "$$",
		"$${A}":       "${A}",
		"$$(A":        "$(A",
		"$$A":         "$A",
		"a$$b$$c$":    "a$b$c$",
		string(every): string(every),
	} {
		means(t, set(t, "A", "no", "a", "no"), s, want, 0)
	}
}

// P8.1: the ways in which a use may stand.
func TestForms(t *testing.T) {
	v := set(t, "A", "x", "long", "y", "@", "at", "<", "less", "]", "b", "\xff", "high", "-", "", "0", "\n")
	means(t, v, "$A", "x", 2)
	means(t, v, "${A}", "x", 2)
	means(t, v, "$(A)", "x", 2)
	means(t, v, "$Ab", "xb", 2)
	means(t, v, "$long", "ong", 1)
	means(t, v, "${long}$(long)", "yy", 4)
	means(t, v, "$@$<$]$\xff", "atlessbhigh", 4+2+4+1+4)
	means(t, v, "$-$0|", "\n|", 3)
	means(t, v, "a${A}b$(A)c$Ad$$", "axbxcxd$", 6)
	means(t, v, "$B${B}$(B)", "", 3)
	means(t, v, "${}$()", "", 2)
	means(t, v, "${A)}$(A})|", "|", 2)
	means(t, v, "$}$)$:$ $=$#$\t$\n$/|", "|", 9)
	means(t, v, "$A}$A)", "x}x)", 4)
}

// P8.1: brackets within a use.
func TestBrackets(t *testing.T) {
	v := set(t, "A", "x", "B", "b", "b", "c", "N", "A")
	means(t, v, "${C:U{}}", "{}", 1)
	means(t, v, "${C:U{{}a{}}}}", "{{}a{}}}", 1)
	means(t, v, "$(C:U(()a()))", "(()a())", 1)
	means(t, v, "${C:U(}", "(", 1)
	means(t, v, "${C:U)}", ")", 1)
	means(t, v, "$(C:U{)", "{", 1)
	means(t, v, "$(C:U})", "}", 1)
	means(t, v, "${C:U$(C:U{)}", "{", 2)
	means(t, v, "${C:U$(C:U})}", "}", 2)
	means(t, v, "$(C:U${C:U)})", ")", 2)
	means(t, v, "${C:U$}}", "", 2)
	means(t, v, "$(C:U$))", "", 2)
	means(t, v, "${C:U$)}", "", 2)
	means(t, v, "${C:U$$}}", "$}", 1)
	means(t, v, "${C:U$$$$}", "$$", 1)
	means(t, v, "${C:U$${}}", "${}", 1)
	means(t, v, "${C:U$$${B}}", "$b", 3)
	means(t, v, "${C{A}:Uno}|${C{A:Uno}}", "no|no}", 2)
	means(t, v, "${C{a:Ub}c}", "b}c", 1)
	means(t, v, "${{}:Uno}", "no", 1)
	means(t, v, "$({:Uno)", "no", 1)
	means(t, v, "${${N}}", "x", 2+2)
	means(t, v, "$($N)", "x", 2+2)
	means(t, v, "${$N}", "x", 2+2)
	means(t, v, "${${$B}:Uno}", "no", 1+1+1+1+1)
	means(t, v, "${$(B)}", "c", 2+2)
	means(t, v, "${$:A}", "x", 3)
	means(t, v, "${A$:}", "x", 3)
	means(t, v, "${C$::Uno}", "no", 2)
	means(t, v, "${$$:Uno}", "no", 1)
}

// P8.1: D and U tell whether there is a value; all behind them is theirs.
func TestThereOrNot(t *testing.T) {
	v := set(t, "A", "x", "E", "", "L", "$L", "O", "${", "T", "a  $$ b ", "D", "d", "M", "Dmm", "W", "Uww")
	means(t, v, "${A:Dyes}", "yes", 1)
	means(t, v, "${C:Dyes}", "", 1)
	means(t, v, "${A:Uno}", "x", 1)
	means(t, v, "${C:Uno}", "no", 1)
	means(t, v, "${E:Dyes}|${E:Uno}|", "yes||", 2)
	means(t, v, "${A:D}|${C:D}|${A:U}|${C:U}|", "||x||", 4)
	means(t, v, "${A:Dy:Q:S/y/z/}", "y:Q:S/y/z/", 1)
	means(t, v, "${C:Uy:Q:S/y/z/}", "y:Q:S/y/z/", 1)
	means(t, v, "${C:U a  b\t}", " a  b\t", 1)
	means(t, v, "${A:D a  b\t}", " a  b\t", 1)
	means(t, v, "${C:UU}${C:UD}${A:DD}${A:DU}", "UDDU", 4)
	means(t, v, "${C:U${A}${A:Dd}}", "xd", 1+2+1)
	means(t, v, "${A:D${A}}", "x", 1+2)
	means(t, v, "${A:U${A}}", "x", 1+2)
	means(t, v, "${:Uno}${:Dyes}", "no", 2)
	means(t, v, "${a b:Uno}${#:Uno}${=:Uno}", "nonono", 3)
	// The value is not looked through.
	means(t, v, "${L:Dyes}${O:Dyes}", "yesyes", 2)
	means(t, v, "${L:Uno}|${O:Uno}|${T:Uno}", "$L|${|a  $$ b ", 3)
	// What the modifiers mean begins so.
	means(t, v, "${A:$M}|${C:$M}|${A:$W}|${C:$W}", "mm||x|ww", 4+4*4)
	fails(t, v, "${A:$$D}", api.ErrMods, 2)
}

// P8.1: modifiers make words of the variable's meaning.
func TestModifiers(t *testing.T) {
	v := set(t, "S", "  ax.c\tb.h   xx.c ", "V", "$S $(X)", "P", "M*.c", "Q", "O:u", "X", "", "C", ":", "G", "a:b", "R", "a$$b")
	takes := len("  ax.c\tb.h   xx.c ")
	means(t, v, "${S:M*.c:S/x/y/:.c=.o}", "ay.o yx.o", 1+takes)
	means(t, v, "$(S:M*.c:S/x/y/:.c=.o)", "ay.o yx.o", 1+takes)
	means(t, v, "${S}", "  ax.c\tb.h   xx.c ", 1+takes)
	means(t, v, "${S:}", "  ax.c\tb.h   xx.c ", 1+takes)
	means(t, v, "${S:$X}", "  ax.c\tb.h   xx.c ", 1+takes+1)
	means(t, v, "${S:O}", "ax.c b.h xx.c", 1+takes)
	means(t, v, "${V:[#]}", "3", 1+7+1+takes+1)
	means(t, v, "${S:$P}", "ax.c xx.c", 1+takes+1+4)
	means(t, v, "${S:${P}:r}", "xx.c ax.c", 1+takes+1+4)
	means(t, v, "${S:r:$Q}", "ax.c b.h xx.c", 1+takes+1+3)
	means(t, v, "${S:r$C$Q}", "ax.c b.h xx.c", 1+takes+1+1+1+3)
	means(t, v, "${S:S/x/$$/g}", "a$.c b.h $$.c", 1+takes)
	means(t, v, "${S:S/c$$/o/}", "ax.o b.h xx.o", 1+takes)
	means(t, v, "${S:S/:/x/}", "ax.c b.h xx.c", 1+takes)
	means(t, v, "${G:S/:/x/}", "axb", 1+3)
	means(t, v, "${G:S/${C}/${C}${C}/}", "a::b", 1+3+3*2)
	means(t, v, "${R}${R:S/$$b/x/}", "a$bax", 2*(1+4))
	means(t, v, "${X:Q}|${N:Q}|${N:[#]}", "''|''|0", 3)
	means(t, v, "${S:M{ax.c}}|${S:M{}b.h}", "|", 2+2*takes)
	means(t, v, "${S:N}|${X:M}", "ax.c b.h xx.c|", 2+takes)
	// The name ends at a : that a meaning has no part in.
	means(t, v, "${S$C[#]}", "", 3)
}

// P8.1: layer 6's errors, in the order in which they are met.
func TestModifierErrors(t *testing.T) {
	v := set(t, "A", "x", "L", "$L", "W", strings.Repeat("w ", 4096)+"w", "O", "${", "B", "Bad")
	fails(t, v, "${A:Bad}", api.ErrMods, 2)
	fails(t, v, "$(N:Bad)", api.ErrMods, 1)
	fails(t, v, "${A:$B}", api.ErrMods, 1+1+3+1)
	fails(t, v, "${A: }", api.ErrMods, 2)
	fails(t, v, "${A::}", api.ErrMods, 2)
	fails(t, v, "${A:Q:}", api.ErrMods, 2)
	fails(t, v, "${A:Q:Dno}", api.ErrMods, 2)
	fails(t, v, "${A:C/(/x/}", api.ErrMods, 2)
	fails(t, v, "${A:S/x/y/gg}", api.ErrMods, 2)
	fails(t, v, "${A:S/x}", api.ErrEnd, 2)
	fails(t, v, "${A:[1}", api.ErrEnd, 2)
	fails(t, v, "${A:"+strings.Repeat("Q:", 32)+"Q}", api.ErrMany, 2)
	fails(t, v, "${A:S/}/x/}", api.ErrEnd, 2)
	// The variable's meaning is found ahead of its modifiers.
	fails(t, v, "${L:Bad}", api.ErrLoop, 1+2+1)
	fails(t, v, "${O:Bad}", api.ErrEnd, 1+2)
	// All that the modifiers mean is found ahead of both.
	fails(t, v, "${L:Bad$(A:S/)}", api.ErrEnd, 1+1+1)
	fails(t, v, "${L$(A:Bad):$(A:S/)}", api.ErrMods, 1+1+1)
	big := len(strings.Repeat("w ", 4096)) + 1
	if _, _, e := Text("${W:[#]}", v, 1+big); e != api.ErrMany {
		t.Errorf("4097 words: %v", e)
	}
	if _, _, e := Text("${W:Bad}", v, 1+big); e != api.ErrMods {
		t.Errorf("4097 words and a wrong modifier: %v", e)
	}
	if _, _, e := Text("${W:[#]}", v, big); e != api.ErrFuel {
		t.Errorf("4097 words and too little fuel: %v", e)
	}
	if s, left, e := Text("${W}", v, 1+big); len(s) != big || left != 0 || e != api.OK {
		t.Errorf("4097 words as they are: %v", e)
	}
}

// P8.1: a use that does not end is told of when its $ is met: behind all that
// is to the left, ahead of all that is in it.
func TestEnd(t *testing.T) {
	v := set(t, "A", "x", "L", "$L", "O", "ab${A", "I", "${A", "P", "}")
	for _, s := range []string{"${", "$(", "a${", "${A", "$(A", "${A)", "$(A}", "${A:", "${A:Q", "${A:Bad", "${A$}", "$(A$)", "${A$",
		"${A{}", "$(A()", "${A$(B}", "${A$(B)", "${${A}", "${$(A}", "$${A}${A", "${L$(A}", "${A:${L}", "${L", "${L:$L", "${$L", "${$(A:Bad)",
		"${" + strings.Repeat("a", api.MaxText+1)} {
		fails(t, v, s, api.ErrEnd, 0)
	}
	fails(t, v, "$A${A", api.ErrEnd, 2)
	fails(t, v, "$A${A$A", api.ErrEnd, 2)
	fails(t, v, "$L${A", api.ErrLoop, 1+2+1)
	fails(t, v, "${A:Bad}${A", api.ErrMods, 2)
	fails(t, v, "$(A${", api.ErrEnd, 0)
	// A use ends in the text in which it begins.
	fails(t, v, "$O", api.ErrEnd, 1+5)
	fails(t, v, "${O}}", api.ErrEnd, 1+5)
	fails(t, v, "$I}", api.ErrEnd, 1+3)
	fails(t, v, "${A${P}", api.ErrEnd, 0)
	fails(t, v, "${A$P", api.ErrEnd, 0)
	means(t, v, "${A$P}", "", 1+1+1)
}

// P8.1: each use takes one, and each byte of a value that is looked through.
func TestFuel(t *testing.T) {
	v := set(t, "A", "x", "B", "$A$A", "C", "${B}${B}", "E", "", "D", "a$$b")
	means(t, v, "$A", "x", 1+1)
	means(t, v, "$B", "xx", 1+4+2*2)
	means(t, v, "$C", "xxxx", 1+8+2*(1+4+2*2))
	means(t, v, "$E$N$:", "", 3)
	means(t, v, "$D", "a$b", 1+4)
	means(t, v, strings.Repeat("a", 1000)+strings.Repeat("$$", 1000), strings.Repeat("a", 1000)+strings.Repeat("$", 1000), 0)
	means(t, v, strings.Repeat("$N", 100), "", 100)
	for _, fuel := range []int{0, -1, -2, -1000, math.MinInt} {
		if s, left, e := Text("a$$", v, fuel); s != "a$" || left != 0 || e != api.OK {
			t.Errorf("Text with fuel %d = %q, %d, %v", fuel, s, left, e)
		}
		for _, use := range []string{"$A", "${N}", "$(A:Dyes)", "$:", "${A:Bad}"} {
			if s, left, e := Text("a"+use, v, fuel); s != "" || left != 0 || e != api.ErrFuel {
				t.Errorf("Text(%q) with fuel %d = %q, %d, %v", use, fuel, s, left, e)
			}
		}
	}
	if s, left, e := Text("$C", v, math.MaxInt); s != "xxxx" || left != math.MaxInt-27 || e != api.OK {
		t.Errorf("Text with all fuel = %q, %d, %v", s, left, e)
	}
}

// P8.1: a meaning within itself.
func TestLoop(t *testing.T) {
	v := set(t, "A", "$A", "B", "x${C}", "C", "$(B)", "D", "${D:Q}", "E", "${E:Dno}", "F", "${F:Uno}", "G", "${N:S/x/$G/}", "H", "${$H}", "I", "${I",
		"J", "a", "a", "$J", "K", "$(N:U$(K))", "M", "$$M")
	fails(t, v, "$A", api.ErrLoop, 1+2+1)
	fails(t, v, "a${B}", api.ErrLoop, 1+5+1+4+1)
	fails(t, v, "$C", api.ErrLoop, 1+4+1+5+1)
	fails(t, v, "$D", api.ErrLoop, 1+6+1)
	means(t, v, "$E", "no", 1+8+1)
	means(t, v, "$F", "${F:Uno}", 1+8+1)
	fails(t, v, "$G", api.ErrLoop, 1+12+1+1)
	fails(t, v, "$H", api.ErrLoop, 1+5+1+1)
	fails(t, v, "$I", api.ErrEnd, 1+3)
	fails(t, v, "$K", api.ErrLoop, 1+10+1+1)
	means(t, v, "$M", "$M", 1+3)
	// A name, or modifiers, that the variable's own meaning is in are found
	// ahead of it, and not within it.
	means(t, v, "${$J$J}", "", 1+2*(1+1))
	means(t, v, "${$J}", "a", 1+1+1+2+1+1)
	w := set(t, "A", "x", "x", "A")
	means(t, w, "${A:S/$A/$A$A/}", "xx", 1+1+3*2)
	means(t, w, "$A$A${A}", "xxx", 6)
	means(t, w, "${${$x}}", "A", 3+3)
}

// chain is a set of so many variables, each of which means the next one.
func chain(t *testing.T, n int, last string) *vars.Set {
	t.Helper()
	v := set(t)
	for i := range n {
		value := last
		if i+1 < n {
			value = "${V" + strconv.Itoa(i+1) + "}"
		}
		if e := v.Put(vars.Local, "V"+strconv.Itoa(i), value); e != api.OK {
			t.Fatal(e)
		}
	}
	return v
}

// P8.1: 32 meanings within one another are not too many; 33 are.
func TestDeep(t *testing.T) {
	takes := 0
	for n := 1; n <= api.MaxDeep; n++ {
		if n > 1 {
			takes += len("${V}") + len(strconv.Itoa(n-1))
		}
		means(t, chain(t, n, "z"), "${V0}", "z", takes+n+1)
		means(t, chain(t, n, "z"), "${V0:S/z/y/}", "y", takes+n+1)
	}
	fails(t, chain(t, 33, "z"), "${V0}", api.ErrLoop, takes+32+6+1)
	fails(t, chain(t, 40, "z"), "${V0}", api.ErrLoop, takes+32+6+1)
	fails(t, chain(t, 32, "$N"), "${V0}", api.ErrLoop, takes+32+2+1)
	means(t, chain(t, 32, "${N:Uno}"), "${V0}", "no", takes+32+8+1)
	if s, _, e := Text("${V1}${V2}${V1}", chain(t, 33, "z"), math.MaxInt); s != "zzz" || e != api.OK {
		t.Errorf("32 and 31 meanings, one behind the other: %q, %v", s, e)
	}
	// Uses within one another are no meanings within one another.
	v := set(t, "A", "A")
	means(t, v, strings.Repeat("${", 100)+"A"+strings.Repeat("}", 100), "A", 200)
	means(t, v, strings.Repeat("${N:U", 100)+"A"+strings.Repeat("}", 100), "A", 100)
	means(t, v, strings.Repeat("$A", 100), strings.Repeat("A", 100), 200)
}

// is holds a text that may be long to its meaning, and to an error.
func is(t *testing.T, v *vars.Set, s, want string, why api.Errno) {
	t.Helper()
	if got, _, e := Text(s, v, math.MaxInt); got != want || e != why {
		t.Errorf("Text(%s) = %s, %v, want %s, %v", short(s), short(got), e, short(want), why)
	}
}

// P8.1: texts, meanings, names and modifiers of MaxText bytes may be; of one
// more they may not.
func TestMany(t *testing.T) {
	const most = api.MaxText
	a := func(n int) string { return strings.Repeat("a", n) }
	v := set(t, "A", a(most), "B", a(most/2), "C", "$B$B", "D", "x$B$B", "E", "", "L", "$L", "X", "x", "W", strings.Repeat("ab ", 1000))
	// The text.
	is(t, v, a(most), a(most), api.OK)
	is(t, v, a(most+1), "", api.ErrMany)
	is(t, v, a(1<<20), "", api.ErrMany)
	is(t, v, strings.Repeat("$$", most), strings.Repeat("$", most), api.OK)
	is(t, v, strings.Repeat("$$", most)+"$", "", api.ErrMany)
	is(t, v, strings.Repeat("$$", most)+"$$", "", api.ErrMany)
	is(t, v, strings.Repeat("$E", most+1), "", api.OK)
	is(t, v, a(most-1)+"$X", a(most-1)+"x", api.OK)
	is(t, v, a(most)+"$X", "", api.ErrMany)
	is(t, v, "$X"+a(most), "", api.ErrMany)
	is(t, v, "$A$E", a(most), api.OK)
	is(t, v, "$A$X", "", api.ErrMany)
	is(t, v, "$A$A", "", api.ErrMany)
	// A meaning, also one of which nothing is left.
	is(t, v, "$C", a(most), api.OK)
	is(t, v, "$D", "", api.ErrMany)
	is(t, v, "${C:Mb}", "", api.OK)
	is(t, v, "${D:Mb}", "", api.ErrMany)
	is(t, v, "${D:[#]}", "", api.ErrMany)
	is(t, v, "${D:Dyes}${A:Dyes}", "yesyes", api.OK)
	// A name.
	is(t, v, "${"+a(most)+"}", "", api.OK)
	is(t, v, "${"+a(most+1)+"}", "", api.ErrMany)
	is(t, v, "${"+a(most+1)+":Uno}", "", api.ErrMany)
	is(t, v, "${$A:Uno}", "no", api.OK)
	is(t, v, "${$A$E:Uno}", "no", api.OK)
	is(t, v, "${$A$X:Uno}", "", api.ErrMany)
	is(t, v, "${a$A:Uno}", "", api.ErrMany)
	// Modifiers.
	is(t, v, "${N:U"+a(most-1)+"}", a(most-1), api.OK)
	is(t, v, "${N:U"+a(most)+"}", "", api.ErrMany)
	is(t, v, "${N:D"+a(most-1)+"}", "", api.OK)
	is(t, v, "${N:D"+a(most)+"}", "", api.ErrMany)
	is(t, v, "${N:M$A}", "", api.ErrMany)
	is(t, v, "${X:S/x/${B}"+a(most/2-5)+"/}", a(most-5), api.OK)
	is(t, v, "${X:S/x/${B}"+a(most/2-4)+"/}", "", api.ErrMany)
	// What modifiers make: words with blanks between, too.
	is(t, v, "${W:S/$$/"+a(63)+"/:[#]}", "1000", api.OK)
	is(t, v, "${W:S/$$/"+a(63)+"/}", "", api.ErrMany)
	is(t, v, "${W:S/$$/"+a(64)+"/:[#]}", "", api.ErrMany)
	is(t, v, "${${W:S/$$/"+a(63)+"/}}", "", api.ErrMany)
}

// P8.1: that something is too long is met where it becomes so.
func TestManyFromTheLeft(t *testing.T) {
	full := strings.Repeat("a", api.MaxText)
	v := set(t, "A", full, "L", "$L", "X", "x", "T", "$A${X$L", "U", "$A$X$L")
	is(t, v, full+"a$L", "", api.ErrMany)
	is(t, v, full+"$L", "", api.ErrLoop)
	is(t, v, "$L"+full+"a", "", api.ErrLoop)
	is(t, v, full+"a${", "", api.ErrMany)
	is(t, v, full+"${", "", api.ErrEnd)
	is(t, v, full+"$X${", "", api.ErrMany)
	is(t, v, full+"${X:Bad}", "", api.ErrMods)
	is(t, v, "$A$X$L", "", api.ErrMany)
	is(t, v, "$T", "", api.ErrEnd)
	is(t, v, "$U", "", api.ErrMany)
	is(t, v, "${"+full+"a$L}", "", api.ErrMany)
	is(t, v, "${"+full+"a:$L}", "", api.ErrMany)
	is(t, v, "${L:M"+full+"}", "", api.ErrMany)
	is(t, v, "${X:"+full+"$L}", "", api.ErrLoop)
	is(t, v, "${X:"+full+"a$L}", "", api.ErrMany)
	if _, _, e := Text(full+"$X", v, 0); e != api.ErrFuel {
		t.Errorf("a use that there is no fuel for, behind a full text: %v", e)
	}
	if _, _, e := Text(full+"a$X", v, 0); e != api.ErrMany {
		t.Errorf("a use that there is no fuel for, behind a text that is too long: %v", e)
	}
}

// P8.1: a set that is none has no values; scopes hide each other.
func TestSets(t *testing.T) {
	for _, v := range []*vars.Set{nil, {}, vars.New()} {
		means(t, v, "a$A${A}$(A:Uno)${A:Dyes}$$", "ano$", 4)
		fails(t, v, "${A", api.ErrEnd, 0)
	}
	v := set(t, "A", "global", "B", "$A")
	means(t, v, "$B", "global", 1+2+1+6)
	v.Put(vars.Command, "A", "c")
	means(t, v, "$B", "c", 1+2+1+1)
	v.Put(vars.Env, "A", "e")
	v.Put(vars.Env, "C", "e")
	means(t, v, "$B$C", "ce", 1+2+1+1+1+1)
	before := v.Copy()
	Text("${A:S/c/d/}$B${B:Q}${D:Ud}", v, 100)
	Text("${A:Bad}", v, 100)
	for scope := vars.Local; scope <= vars.Env; scope++ {
		if !slices.Equal(v.Names(scope), before.Names(scope)) {
			t.Errorf("the names of scope %d have turned", scope)
		}
		for _, name := range v.Names(scope) {
			got, _ := v.In(scope, name)
			if want, _ := before.In(scope, name); got != want {
				t.Errorf("%s has turned to %q", name, got)
			}
		}
	}
}

// P8.2: Uses.
func TestUses(t *testing.T) {
	for s, want := range map[string][]string{
		"":                         nil,
		"a b":                      nil,
		"$$":                       nil,
		"$":                        nil,
		"a$$b$":                    nil,
		"$${A}":                    nil,
		"$A":                       {"A"},
		"${A}":                     {"A"},
		"$(A)":                     {"A"},
		"$A$A":                     {"A", "A"},
		"$B${A}$$$(C)$":            {"B", "A", "C"},
		"${A:M*}$(B:S/a/b/)":       {"A", "B"},
		"${A$B:M$C}$D":             {"A$B", "D"},
		"${${A}}":                  {"${A}"},
		"${a${b:Q}c:M${d}}":        {"a${b:Q}c"},
		"${a$(b:c)d:e}":            {"a$(b:c)d"},
		"${a$:b:c}":                {"a$:b"},
		"${a$$b}":                  {"a$$b"},
		"${$$}":                    {"$$"},
		"${}":                      {""},
		"$()${:Q}":                 {"", ""},
		"${a{b}c}":                 {"a{b}c"},
		"${a{b:c}d}":               {"a{b"},
		"${a(b}$(a{b)":             {"a(b", "a{b"},
		"${a$}b}":                  {"a$}b"},
		"$}$)$:$ $\n$\xff":         {"}", ")", ":", " ", "\n", "\xff"},
		"${ a b }":                 {" a b "},
		"${A:Bad}${A:S/}":          {"A", "A"},
		"${A:${B:${C:${D}}}}$E $F": {"A", "E", "F"},
	} {
		if got, e := Uses(s); !slices.Equal(got, want) || e != api.OK {
			t.Errorf("Uses(%q) = %q, %v, want %q", s, got, e, want)
		}
	}
	for _, s := range []string{"${", "$(", "a${A", "$A${A)", "$A$(A}", "${A${B}", "${A$(B}", "${A$}", "${A{}", "${A$", "$A${A:M*", "${A$$}${B",
		"${A}$(${B}", "$$${", "$(()"} {
		if got, e := Uses(s); got != nil || e != api.ErrEnd {
			t.Errorf("Uses(%q) = %q, %v, want ErrEnd", s, got, e)
		}
	}
	long := strings.Repeat("n", 1<<17)
	if got, e := Uses("${" + long + ":" + long + "}"); len(got) != 1 || got[0] != long || e != api.OK {
		t.Errorf("Uses of a long name: %v", e)
	}
	if got, e := Uses(strings.Repeat("$a", 1<<17)); len(got) != 1<<17 || e != api.OK {
		t.Errorf("Uses of many: %d, %v", len(got), e)
	}
}

// P8.2: Use.
func TestUse(t *testing.T) {
	for s, want := range map[string]int{
		"": 0, "a": 0, "a$A": 0, " $A": 0, "{A}": 0, "}": 0,
		"$": 1, "$$": 2, "$$$": 2, "$$A": 2, "$${": 2,
		"$A": 2, "$Ab": 2, "$A${": 2, "$}": 2, "$)x": 2, "$:": 2, "$ ": 2, "$\xff": 2, "$\x00": 2,
		"${}": 3, "$()": 3, "${A}": 4, "$(A)": 4, "${A}}": 4, "${A}b${": 4, "$(A))": 4,
		"${A)}": 5, "$(A})": 5, "${A:M*}x": 7,
		"${A{}}": 6, "${{}}": 5, "${{{}}}": 7, "$(())": 5, "${({)}}": 7, "${(}": 4, "$({)": 4,
		"${a{b:c}d}e": 10,
		"${$}}":       5, "$($))": 5, "${$)}": 5, "${$$}}": 5, "${$$$}}": 7,
		"${${}}": 6, "${$()}": 6, "$(${)})": 7, "${$(})}": 7, "${${A}:M$(B)}c": 13,
		"${": 0, "$(": 0, "${A": 0, "$(A}": 0, "${A)": 0, "${{}": 0, "$(()": 0, "${$}": 0, "$($)": 0, "${$": 0, "${${}": 0, "${$(}": 0, "${A:": 0,
	} {
		if got := Use(s); got != want {
			t.Errorf("Use(%q) = %d, want %d", s, got, want)
		}
	}
}

// P8.2: Quote.
func TestQuote(t *testing.T) {
	for s, want := range map[string]string{
		"": "", "a": "a", "$": "$$", "$$": "$$$$", "${A}": "$${A}", "a$b$": "a$$b$$", "{}()": "{}()", "\xff$\x00": "\xff$$\x00",
	} {
		if got := Quote(s); got != want {
			t.Errorf("Quote(%q) = %q, want %q", s, got, want)
		}
	}
}

// Each text is gone over once, however deep its uses lie within one another.
func TestNested(t *testing.T) {
	const deep = 1 << 16
	v := set(t, "A", "A")
	for _, open := range []string{"${", "${N:U", "${{", "$(A:D"} {
		shut := map[string]string{"${": "}", "${N:U": "}", "${{": "}}", "$(A:D": ")"}[open]
		s := strings.Repeat(open, deep) + "A" + strings.Repeat(shut, deep)
		if got := Use(s); got != len(s) {
			t.Errorf("Use of many %q = %d", open, got)
		}
		if got := Use(s[:len(s)-1]); got != 0 {
			t.Errorf("Use of many %q that do not end = %d", open, got)
		}
		if got, e := Uses(s); len(got) != 1 || e != api.OK {
			t.Errorf("Uses of many %q: %d, %v", open, len(got), e)
		}
		if _, e := Uses(s[:len(s)-1]); e != api.ErrEnd {
			t.Errorf("Uses of many %q that do not end: %v", open, e)
		}
		want := "A"
		if open == "${{" {
			want = ""
		}
		is(t, v, s, want, api.OK)
		is(t, v, s[:len(s)-1], "", api.ErrEnd)
	}
}
