package cond

import (
	"math"
	"slices"
	"strconv"
	"strings"
	"testing"

	"bobstay/api"
	"bobstay/vars"
	"bobstay/vfs"
)

// short is a text for a message.
func short(s string) string {
	if len(s) > 100 {
		return strconv.Quote(s[:100]) + ".. of " + strconv.Itoa(len(s)) + " bytes"
	}
	return strconv.Quote(s)
}

// world is one with something of each kind; more variables are names and values
// by turns.
func world(t *testing.T, pairs ...string) World {
	t.Helper()
	v := vars.New()
	pairs = append([]string{"A", "10", "E", "", "B", " \t ", "Z", "0", "N", "A", "X", "x", "S", "a.c b.h", "L", "$L", "O", "${", "R", "$A", "P", "*.o", "Q", `"`}, pairs...)
	for i := 0; i < len(pairs); i += 2 {
		if e := v.Put(vars.Global, pairs[i], pairs[i+1]); e != api.OK {
			t.Fatalf("Put(%q) is refused: %v", pairs[i], e)
		}
	}
	s, e := vfs.New(100)
	if e != api.OK {
		t.Fatal(e)
	}
	for _, e := range []api.Errno{s.Mkdir("d"), s.Write("d/f", "f"), s.Write("a b", ""), s.Write("A", "")} {
		if e != api.OK {
			t.Fatal(e)
		}
	}
	return World{Vars: v, Store: s, Goals: []string{"all", "a.o"}, Targets: []string{"a.o", "t", "A", "a b"}, Commands: []string{"a.o", "a b"}, Fuel: 1000}
}

// right holds texts to being conditions.
func right(t *testing.T, texts ...string) {
	t.Helper()
	for _, s := range texts {
		if f := Check(s); f != (api.Fault{}) {
			t.Errorf("Check(%s) = %v", short(s), f)
		}
	}
}

// refused holds a text to a fault of its form, which Holds tells as well.
func refused(t *testing.T, s string, want api.Fault) {
	t.Helper()
	if f := Check(s); f != want {
		t.Errorf("Check(%s) = %v, want %v", short(s), f, want)
	}
	if is, f := Holds(s, world(t)); is || f != want {
		t.Errorf("Holds(%s) = %t, %v, want %v", short(s), is, f, want)
	}
}

// holds holds conditions, and what they are behind a !, to an answer.
func holds(t *testing.T, w World, want bool, texts ...string) {
	t.Helper()
	for _, s := range texts {
		if is, f := Holds(s, w); is != want || f != (api.Fault{}) {
			t.Errorf("Holds(%s) = %t, %v, want %t", short(s), is, f, want)
		}
		if is, f := Holds("!("+s+")", w); is == want || f != (api.Fault{}) {
			t.Errorf("Holds of ! and %s = %t, %v, want %t", short(s), is, f, !want)
		}
		right(t, s)
	}
}

// fails holds a condition of a right form to a fault.
func fails(t *testing.T, w World, s string, why api.Errno, at int) {
	t.Helper()
	right(t, s)
	if is, f := Holds(s, w); is || f != (api.Fault{Why: why, At: at}) {
		t.Errorf("Holds(%s) = %t, %v, want %v at %d", short(s), is, f, why, at)
	}
	if is, f := Holds("!("+s+")", w); is || f != (api.Fault{Why: why, At: at + 2}) {
		t.Errorf("Holds(%s) = %t, %v, want %v at %d", short("!("+s+")"), is, f, why, at+2)
	}
}

func TestExample(t *testing.T) {
	holds(t, world(t), true, "defined(A) && ${A} > 3")
	w := world(t)
	w.Vars.Drop(vars.Global, "A")
	holds(t, w, false, "defined(A) && ${A} > 3")
}

// P10.1: what may stand where.
func TestCheckRight(t *testing.T) {
	right(t,
		"a", "0", " a ", "\ta\t", `"a"`, `""`, `" "`, `"a b" `, `a"b`, `a"`, `'a'`, "a'", "a,b", "a\nb", "\xff", "\x00", "-", "*", ":", "#", "{", "}", "{}", "[]", "\\", ".",
		"a==b", "a == b", "a\t==\tb", "a  ==b", "a!=b", "a<b", "a<=b", "a>b", "a>=b", "a <= b", `"a"=="b"`, `"a"<b`, `a>="b"`, `a==""`, `"=!<>&|()"`, `"a"=="&& ||"`,
		"!a", "!!a", "! ! a", "!a==b", "!(a)", "! ( a )", "!\t(\ta\t)", "!defined(A)",
		"(a)", "((a))", "( ( a ) )", "(a)&&(b)", "(a)||(b)", "(a==b)", "(!a)", "((a)&&b)", "(a&&(b))",
		"a&&b", "a||b", "a && b", "a || b", "a&&b||c&&d", "a||b&&c||d", "a&&!b", "a||!(b)", "a!=b&&c", "a==b||c", `"a"&&"b"`, "a&&b&&c&&d", "a||b||c||d",
		"defined(A)", "defined (A)", "defined\t (A)", "defined( A )", "defined()", "defined( )", "defined(a b)", "defined((A)", "defined(A&&B)", `defined(")`, "defined(!=<>)",
		"empty(A)", "empty(A:M*)", "empty()", "empty(A:)", "make(*)", "target(t)", "commands(t)", "exists(/)", "exists (/)", "make (a) && target (b)",
		"defined(A)&&b", "defined(A)||!empty(B)", "(defined(A))", "!make(x)&&!target(y)",
		"defined", "empty", "make", "target", "commands", "exists", "defined==empty", "make && target", "defined ", "(exists)", "!commands", "definedx", "Defined", "xdefined", "def",
		"$A", "${A}", "$(A)", "${A:M*.c}", "a${A}b", "${A} == ${B}", `"${A}"`, "$$", "a$$b", "$", "a$", "a == $", "${a b}", "$(a b)", "${a && b || (c}", "${A==b}", "$(a(b)c)",
		`${"}`, `"${"}"`, `"$(")"`, "$ ", "$ b", "$=", "$!", "$&", "$|", "$<", "$>", "$)", "$&&&$&", "a$===b", "$|||$|", `$"`, `"$""`, "defined($))", "defined(${)})", "defined($(A))", "empty(A:M$(B))",
		"$$==$$", "$$ && $$")
}

// P10.1: at the first byte that may not stand there, and at the length, where
// something is missing.
func TestCheckWrong(t *testing.T) {
	for s, at := range map[string]int{
		"": 0, " ": 1, "\t \t": 3,
		"a b": 2, "a\tb": 2, "a  b c": 3, "a (b)": 2, "a(b)": 1, `a "b"`: 2, `"a"b`: 3, `"a""b"`: 3, `"a" b`: 4, `"a"(b)`: 3, `"defined"(A)`: 9, "a $b": 2, "(a) b": 4, "(a)b": 3, "(a)(b)": 3, "(a)!b": 3,
		`(a)"b"`: 3, "defined(A) b": 11, "defined(A)b": 10, "defined(A)(B)": 10, "defined(A))": 10, "defined(A)!b": 10, "make(a(b)c)": 9,
		"!": 1, "! ": 2, "!!": 2, "!&&a": 1, "!||a": 1, "!)": 1, "!=a": 1, "!==a": 1, "a && !": 6, "!a!b": 2, "a!b": 1, "a !b": 2, "a ! b": 2, "a! =b": 1, "a!": 1,
		"(": 1, "( ": 2, "()": 1, "( )": 2, "a()": 1, ")": 0, "a)": 1, "a )": 2, "(a))": 3, "((a)))": 5, "(a b)": 3, "(a b": 3, "(&&)": 1, "(a&&)": 4, "(a &&": 5, "(a ==": 5, "(!": 2, "((": 2,
		"&&": 0, "||": 0, "a&&": 3, "a ||": 4, "a || ": 5, "a&&&&b": 3, "a&& &&b": 4, "a&&||b": 3, "a||&&b": 3, "a||||b": 3, "a&&&b": 3, "a|||b": 3, "&& a": 0, " || a": 1, "a && b ||": 9,
		"a&b": 1, "a & b": 2, "a & & b": 2, "a |b": 2, "a | | b": 2, "a&": 1, "a|": 1, "a&|b": 1, "&a": 0, "|": 0, "a && b & c": 7,
		"==": 0, "== a": 0, "<a": 0, ">=": 0, "a==": 3, "a == ": 5, "a <": 3, "a >=": 4, `"a" !=`: 6, "a=b": 1, "a = b": 2, "a = = b": 2, "a =": 2, "a=": 1, "=": 0, "a =! b": 2, "a => b": 2, "a =< b": 2,
		"a === b": 4, "a == = b": 5, "a !== b": 4, "a <== b": 4, "a < = b": 4, "a << b": 3, "a <> b": 3, "a >> b": 3, "a >< b": 3, "a <! b": 3, "a < !b": 4, "a == !b": 5, "a == (b)": 5, "a == )": 5, "a == && b": 5,
		"a == b == c": 7, "a < b < c": 6, "a == b c": 7, "a == b(c)": 6, "a == defined(A)": 12, "a == defined (A)": 13, "defined(A) == a": 11, "defined(A)==a": 10, "(a) == b": 4, "(a)==b": 3, "a == (": 5,
		"foo(a)": 3, "definedx(A)": 8, "xdefined(A)": 8, "Defined(A)": 7, "defined.(A)": 8, "defined$A(A)": 9, "$defined(A)": 8, "${defined}(A)": 10, "defined\n(A)": 8, "def(A)": 3, "is defined(A)": 3,
		"a && (b || c": 5, "a && b c && d e": 7, "(a) || (b": 7,
		"\n b": 2, "a\v&&\vb c": 7, "defined(A)\n": 10,
	} {
		refused(t, s, api.Fault{Why: api.ErrCond, At: at})
	}
}

// P10.1: at the ", the ( or the $ that does not end.
func TestCheckOpen(t *testing.T) {
	for s, at := range map[string]int{
		`"`: 0, `"a`: 0, ` "a b `: 1, `a == "b`: 5, `"a" == "`: 7, `"$"`: 0, `"a$"`: 0, `"${"}`: 0, `"a" && "b`: 7, `!("a`: 2, `("a)`: 1, `"a$$" "`: 6,
		"(a": 0, "(a ": 0, " (a": 1, "((a": 1, "((a)": 0, "( (a) ": 0, "(((a)": 1, "(a==b": 0, "(defined(A)": 0, "!(a": 1, "a&&(b": 3, "(a)&&(b||c": 5, "(a&&(b)": 0, "!(!(a": 3, `("a"`: 0,
		"defined(": 7, "defined(A": 7, "defined (A": 8, "defined( A && b": 7, "empty(A:M(": 5, "make(": 4, "target(\n": 6, "commands(\"": 8, "exists(/d": 6, "(make(": 5, "a && exists(": 11, "(defined(A": 8,
		"defined($)": 7, "defined(A$)": 7, "defined(A$": 7, "empty($)": 5, "exists($(a)": 6, "defined (${A}": 8, "defined(A&&(B": 7,
		"${": 0, "$(": 0, "${A": 0, "$(A": 0, "${A)": 0, "$(A}": 0, "x${A": 1, "${A}${B": 4, "a == ${A": 5, "${A$(B}": 0, "${A${B}": 0, "${A$}": 0, "${A{}": 0, "$$${A": 2, "$A${A": 2, "${A || b": 0,
		`"${A"`: 1, `"a ${A"`: 3, `"a$(A" == b`: 2, `a == "${A}${"`: 10, "defined(${A)": 8, "defined(a$(A)": 7, "defined($(A": 8, "empty(A:M${B)": 9, "(a && ${A)": 6, "!${A": 1, "( ${A": 2,
	} {
		refused(t, s, api.Fault{Why: api.ErrCond, At: at})
	}
}

// P10.1: each byte between two others, and as the first one.
func TestCheckEachByte(t *testing.T) {
	bad := func(at int) api.Fault { return api.Fault{Why: api.ErrCond, At: at} }
	for c := range 256 {
		b := string([]byte{byte(c)})
		between, first := api.Fault{}, api.Fault{}
		switch b {
		case " ", "\t":
			between = bad(2)
		case "=", "&", "|", ")", "(":
			between, first = bad(1), bad(0)
		case "<", ">", `"`:
			first = bad(0)
		case "!":
			between = bad(1)
		}
		if got := Check("a" + b + "b"); got != between {
			t.Errorf("Check(%q) = %v, want %v", "a"+b+"b", got, between)
		}
		if got := Check(b + "b"); got != first {
			t.Errorf("Check(%q) = %v, want %v", b+"b", got, first)
		}
	}
}

// P10.1: how long a condition may be.
func TestCheckLong(t *testing.T) {
	right(t, strings.Repeat("a", api.MaxText), strings.Repeat(" ", api.MaxText-1)+"a", "a"+strings.Repeat("||a", (api.MaxText-1)/3), "${"+strings.Repeat("A", api.MaxText-3)+"}")
	for _, s := range []string{strings.Repeat("a", api.MaxText+1), "a" + strings.Repeat(" ", api.MaxText), ")" + strings.Repeat("a", api.MaxText), strings.Repeat("(", api.MaxText+1), strings.Repeat("$", 1<<20)} {
		refused(t, s, api.Fault{Why: api.ErrMany})
	}
	refused(t, strings.Repeat("a", api.MaxText-1)+")", api.Fault{Why: api.ErrCond, At: api.MaxText - 1})
	refused(t, strings.Repeat(" ", api.MaxText), api.Fault{Why: api.ErrCond, At: api.MaxText})
	holds(t, world(t), true, "a"+strings.Repeat("&&a", (api.MaxText-4)/3))
	holds(t, world(t), false, "0"+strings.Repeat("||0", (api.MaxText-4)/3))
}

// P10.1: how many ( and ! may be open.
func TestCheckDeep(t *testing.T) {
	many := func(at int) api.Fault { return api.Fault{Why: api.ErrMany, At: at} }
	in := func(n int) string { return strings.Repeat("(", n) + "a" + strings.Repeat(")", n) }
	nots := func(n int) string { return strings.Repeat("!", n) + "a" }
	right(t, in(32), nots(32), strings.Repeat("!(", 16)+"a"+strings.Repeat(")", 16), in(32)+"&&"+in(32)+"||"+nots(32)+"&&"+nots(32))
	right(t, "("+strings.Repeat("!a&&(b)||", 50)+"!a==b)", strings.Repeat("!a&&", 50)+"!a", strings.Repeat("!(!a)||", 50)+"a")
	// The brackets of tests and uses open nothing.
	right(t, strings.Repeat("(", 32)+"defined(A)"+strings.Repeat(")", 32), nots(31)+"&&!empty((((A)", strings.Repeat("(", 32)+strings.Repeat("${", 40)+strings.Repeat("}", 40)+strings.Repeat(")", 32))
	refused(t, in(33), many(32))
	refused(t, nots(33), many(32))
	refused(t, " "+strings.Repeat("! ", 33)+"a", many(65))
	refused(t, in(500), many(32))
	refused(t, strings.Repeat("(", 60000), many(32))
	refused(t, strings.Repeat("!", 60000), many(32))
	refused(t, strings.Repeat("!(", 16)+"(a)"+strings.Repeat(")", 16), many(32))
	refused(t, strings.Repeat("!(", 16)+"!a"+strings.Repeat(")", 16), many(32))
	refused(t, strings.Repeat("!(", 16)+"a&&!a"+strings.Repeat(")", 16), many(35))
	refused(t, strings.Repeat("(", 32)+"a==b||(c)"+strings.Repeat(")", 32), many(38))
	refused(t, "a && "+nots(40), many(37))
	refused(t, in(32)+"&&"+in(33), many(65+2+32))
	refused(t, "b)&&"+in(40), api.Fault{Why: api.ErrCond, At: 1})
	refused(t, strings.Repeat("(", 32)+"&"+in(40), api.Fault{Why: api.ErrCond, At: 32})
	refused(t, strings.Repeat("(", 32), api.Fault{Why: api.ErrCond, At: 32})
	refused(t, strings.Repeat("(", 32)+"a", api.Fault{Why: api.ErrCond, At: 31})
	holds(t, world(t), true, in(30), nots(30))
	holds(t, world(t), false, nots(29))
}

// P10.2: defined.
func TestDefined(t *testing.T) {
	w := world(t)
	holds(t, w, true, "defined(A)", "defined (A)", "defined( \tA\t )", "defined(E)", "defined(L)", "defined(O)", "defined(${N})", "defined($N)", "defined( $(N) )", "defined(${C:UA})", "defined(${E}A${E})")
	holds(t, w, false, "defined(C)", "defined(a)", "defined()", "defined( )", "defined(A A)", "defined(A,A)", `defined("A")`, "defined($A)", "defined(${A})", "defined($$A)", "defined(A:Q)", "defined(${B}A)", "defined(A${B})")
	for scope := vars.Local; scope <= vars.Env; scope++ {
		w.Vars.Put(scope, "C", "")
		holds(t, w, true, "defined(C)")
		w.Vars.Drop(scope, "C")
		holds(t, w, false, "defined(C)")
	}
}

// P10.2: empty.
func TestEmpty(t *testing.T) {
	w := world(t)
	holds(t, w, true, "empty(E)", "empty(B)", "empty(C)", "empty()", "empty( )", "empty( E )", "empty (E)", "empty(S:Mx)", "empty(A:D)", "empty(A:D \t)", "empty(C:U )", "empty(C:U \t${E})",
		"empty(${C})", "empty($C)", "empty($$)", "empty(S:M${X})", "empty(A A)", "empty($A)")
	holds(t, w, false, "empty(A)", "empty( A )", "empty(Z)", "empty(R)", "empty(S:M*.c)", "empty( S:M*.c )", "empty(S:M*.${:Uc})", "empty(${N})", "empty($N)", "empty(C:Uno)", "empty(C:U${A})",
		"empty(E:Q)", "empty(E:[#])", "empty(C:U\n)", "empty(C:U\x00)", "empty(C:U  x  )")
	// It is what that text means, whatever stands in it.
	holds(t, w, false, "empty(E})", "empty(E}x{)")
	fails(t, w, "empty(A{)", api.ErrEnd, 0)
}

// P10.2: make.
func TestMake(t *testing.T) {
	w := world(t)
	holds(t, w, true, "make(all)", "make( all )", "make (all)", "make(a*)", "make(*)", "make(*.o)", "make([a-c].?)", "make(${P})", "make($P)", `make(\all)`, "make(a${:Ul}l)")
	holds(t, w, false, "make(al)", "make(all.o)", "make()", "make(t)", "make(ALL)", "make(all a.o)", `make("all")`, `make(\*)`, "make($$P)", "make(*.c)", "make(b*)")
	w.Goals = nil
	holds(t, w, false, "make(*)", "make()", "make(all)")
	w.Goals = []string{""}
	holds(t, w, true, "make(*)", "make()", "make( )", "make($C)")
}

// P10.2: target and commands.
func TestTarget(t *testing.T) {
	w := world(t)
	holds(t, w, true, "target(t)", "target( t )", "target (t)", "target(a.o)", "target(a b)", "target($N)", "target(${:Ua}.o)")
	holds(t, w, false, "target(all)", "target(T)", "target()", "target(*)", "target(a.*)", "target(${C})", "target($$N)", `target("t")`, "target(a)")
	holds(t, w, true, "commands(a.o)", "commands( a.o\t)", "commands (a b)", "commands(${:Ua}.o)")
	holds(t, w, false, "commands(t)", "commands(A)", "commands($N)", "commands(all)", "commands()", "commands(*)", "commands(a)", `commands("a.o")`)
	// One that is not known is no target, though it were said to have commands.
	w.Commands = []string{"x", "t"}
	holds(t, w, true, "commands(t)")
	holds(t, w, false, "commands(x)", "target(x)", "commands(a.o)")
	w.Targets = nil
	holds(t, w, false, "target(t)", "commands(t)", "target()", "commands()")
}

// P10.2: exists.
func TestExists(t *testing.T) {
	w := world(t)
	holds(t, w, true, "exists(/)", "exists(d)", "exists( /d/ )", "exists (d/f)", "exists(/d/../d//f)", "exists(a b)", "exists(A)", "exists($N)", "exists(${:Ud}/f)", "exists(.)", "exists()", "exists(..)")
	holds(t, w, false, "exists(f)", "exists(d/g)", "exists(A/f)", "exists(*)", `exists("d")`, "exists($$N)", "exists($A)", "exists("+strings.Repeat("n", 256)+")")
	w.Store.Remove("d/f")
	holds(t, w, false, "exists(d/f)")
	holds(t, w, true, "exists(d)")
}

// P10.2: a side alone.
func TestSide(t *testing.T) {
	w := world(t)
	holds(t, w, true, "1", "-1", "+7", "0x1", "a", "0x", "-", "00x0", "0.0", "4611686018427387905", "-4611686018427387905", "$A", "${A}", "a$E", "$$", "a$$", `"a"`, `"0"`, `"00"`, `" "`, `"$Z"`, `"-0x0"`, `'0'`, `'`,
		"$B", "${:U }", "${:U0 }", `"$A$E"`, "defined", "exists", "1 ", " 1", "0a", "O", "${R}", `a"`, "1$E", "$Z$A", "${:U\n}")
	holds(t, w, false, "0", "00", "-0", "+0", "0x0", "-0X00", "$Z", "${Z}", "$Z$Z", "$E", "${E}", "$C", "${C}", "${A:D}", `""`, `"$E"`, `"${C}$(E)"`, "$E$Z", "0$E", "${:U0}", "-$Z")
	if is, f := Holds("$", w); !is || f != (api.Fault{}) {
		t.Errorf("Holds of a $ at the end = %t, %v", is, f)
	}
	// What a use means neither ends a side nor begins quotes.
	holds(t, w, true, `${Q}${Q}`, `$Q`, "${:U0 || 0}", "${:Udefined(C)}", "${:U0)}")
}

// P10.2: two sides, held against each other as numbers, or byte by byte.
func TestSame(t *testing.T) {
	w := world(t)
	for _, s := range []string{"1 @ 1", "1@1", "01 @ 1", "0x0A @ 10", "-0 @ +0", "$A @ 0xa", "${A} @ 10", "10 @ $R", "a @ a", `"a" @ a`, `a @ "a"`, `"a" @ "a"`, `"10" @ 10`, `"$A" @ 10`, `$A @ "10"`, `"" @ $E`, "$C @ $E",
		`"a b" @ "a b"`, `"a b" @ ${:Ua b}`, "4611686018427387904 @ 0x4000000000000000", "4611686018427387905 @ 4611686018427387905", "$$ @ $$", `$Q @ $Q`, `a" @ "a${Q}"`, "defined @ defined", `"(" @ ${:U(}`, `"\n" @ ${:U\n}`} {
		holds(t, w, true, strings.Replace(s, "@", "==", 1))
		holds(t, w, false, strings.Replace(s, "@", "!=", 1))
	}
	for _, s := range []string{"1 @ 2", "1 @ -1", "a @ b", "a @ A", `"01" @ 1`, `01 @ "1"`, `"01" @ "1"`, `"$A" @ 0xa`, `"0xa" @ $A`, "1 @ 1a", "01 @ 1x", "x01 @ x1", `"a" @ "a "`, `"a " @ a`, "$E @ 0", `"" @ 0`, "$E @ a", "a @ ab", "ab @ a",
		"4611686018427387905 @ 04611686018427387905", "0x4000000000000001 @ 4611686018427387905", "4611686018427387905 @ 4611686018427387904", "$B @ $E", "0 @ $B", `"a" @ 'a'`, `${:U10 } @ 10`} {
		holds(t, w, false, strings.Replace(s, "@", "==", 1))
		holds(t, w, true, strings.Replace(s, "@", "!=", 1))
	}
}

// P10.2: two sides, as numbers, in quotes too.
func TestOrder(t *testing.T) {
	w := world(t)
	for _, quoted := range []func(s string) string{func(s string) string { return s }, func(s string) string { return `"` + s + `"` }} {
		for _, c := range []struct {
			left, right string
			order       int
		}{
			{"1", "2", -1}, {"2", "10", -1}, {"10", "9", 1}, {"-2", "-10", 1}, {"-1", "0", -1}, {"0x1F", "31", 0}, {"007", "7", 0}, {"-0", "0", 0}, {"$A", "9", 1}, {"9", "${A}", -1}, {"$A", "$R", 0}, {"$Z", "+0", 0},
			{"4611686018427387903", "4611686018427387904", -1}, {"-4611686018427387904", "4611686018427387904", -1}, {"-4611686018427387903", "-4611686018427387904", 1},
		} {
			for sign, want := range map[string]bool{"<": c.order < 0, "<=": c.order <= 0, ">": c.order > 0, ">=": c.order >= 0, "==": c.order == 0, "!=": c.order != 0} {
				if quoted("") != "" && (sign == "==" || sign == "!=") {
					continue
				}
				holds(t, w, want, quoted(c.left)+" "+sign+" "+c.right, c.left+sign+quoted(c.right), quoted(c.left)+sign+"\t"+quoted(c.right))
			}
		}
	}
}

// P10.2: a side that is no number that may be.
func TestOrderOfNoNumber(t *testing.T) {
	w := world(t)
	for _, none := range []string{"a", "$E", `""`, "$C", "$B", "1a", "0x", "4611686018427387905", "-4611686018427387905", `"a"`, `" 1"`, "${:U1 }", "$S", "1.0"} {
		for _, sign := range []string{"<", "<=", ">", ">="} {
			fails(t, w, none+sign+"1", api.ErrCond, 0)
			fails(t, w, "1 "+sign+" "+none, api.ErrCond, 0)
			fails(t, w, none+" "+sign+none, api.ErrCond, 0)
			fails(t, w, "1 && 2 < 3 && (  "+none+sign+"1)", api.ErrCond, 17)
		}
	}
}

// P10.2: layer 8's errors, at the byte at which the test begins.
func TestFaults(t *testing.T) {
	w := world(t, "M", strings.Repeat("m", api.MaxText))
	w.Fuel = 2 * api.MaxText
	for s, why := range map[string]api.Errno{"$L": api.ErrLoop, "${O}": api.ErrEnd, "${A:Bad}": api.ErrMods, "${A:S/x}": api.ErrEnd, "$M$A": api.ErrMany, "a$(L)": api.ErrLoop} {
		for _, test := range []string{"@", `"@"`, `"a @"`, "@==1", "1 == @", `1<"@"`, `"@" != "@"`, "defined(@)", "defined ( @ )", "make(@)", "target( a@)", "commands(@)", "exists(/@)", "empty(@)", "empty(A:M@)", "empty( ${C:U@} )"} {
			test = strings.Replace(test, "@", s, 1)
			test = strings.Replace(test, "@", "$L", 1)
			fails(t, w, test, why, 0)
			fails(t, w, "  "+test, why, 2)
			fails(t, w, "1 && ( 0 || ("+test+"))", why, 13)
			fails(t, w, "0||!"+test+"||$L||x<1", why, 4)
			fails(t, w, "!"+test+" && $L", why, 1)
		}
	}
	fails(t, w, "empty(L)", api.ErrLoop, 0)
	fails(t, w, "1 && empty( L:Q )", api.ErrLoop, 5)
	fails(t, w, "empty(A:Bad)", api.ErrMods, 0)
	fails(t, w, "empty(A:S/x)", api.ErrEnd, 0)
	fails(t, w, "empty(A:)|| empty(A::)", api.ErrMods, 12)
	holds(t, w, false, "empty(M)")
	fails(t, w, "empty(M}x{)", api.ErrMany, 0)
}

// P10.2: of one test the left side comes first, and layer 8's errors ahead of
// what is no number.
func TestFirstFault(t *testing.T) {
	w := world(t)
	fails(t, w, "$L == ${A:Bad}", api.ErrLoop, 0)
	fails(t, w, "${A:Bad} == $L", api.ErrMods, 0)
	fails(t, w, "a < $L", api.ErrLoop, 0)
	fails(t, w, "$L < a", api.ErrLoop, 0)
	fails(t, w, "a < 1 && $L", api.ErrCond, 0)
	fails(t, w, "$L && a < 1", api.ErrLoop, 0)
	fails(t, w, "1 && 0 || ${A:Bad} || a < 1", api.ErrMods, 10)
	fails(t, w, "(0 || a < 1) && $L", api.ErrCond, 6)
	// The form of all is asked ahead of all else.
	refused(t, "$L && a b", api.Fault{Why: api.ErrCond, At: 8})
	refused(t, "a < 1 && ${", api.Fault{Why: api.ErrCond, At: 9})
	refused(t, "1 || (", api.Fault{Why: api.ErrCond, At: 6})
	refused(t, "0 && a b", api.Fault{Why: api.ErrCond, At: 7})
	refused(t, "1 || "+strings.Repeat("!", 33)+"a", api.Fault{Why: api.ErrMany, At: 37})
}

// P10.2: each text has all of the fuel.
func TestFuel(t *testing.T) {
	w := world(t)
	for s, takes := range map[string]int{"$A": 3, `"${A}"`: 3, "$C": 1, "$A == $A": 3, "$A$A == 1010": 6, "$R < 11": 1 + 2 + 3, "defined($N)": 2, "empty(A)": 3, "!empty(${N})": 1 + 2 + 2, "1 < $A && $A > 2": 3, "make($P)": 4, "target(${N})": 2, "commands(a.o$E)": 1, "exists(${:Ud})": 1} {
		w.Fuel = takes
		if _, f := Holds(s, w); f != (api.Fault{}) {
			t.Errorf("Holds(%s) with fuel %d: %v", s, takes, f)
		}
		for _, less := range []int{takes - 1, 0, -1, math.MinInt} {
			w.Fuel = less
			if is, f := Holds(s, w); is || f.Why != api.ErrFuel {
				t.Errorf("Holds(%s) with fuel %d = %t, %v, want ErrFuel", s, less, is, f)
			}
		}
	}
	w.Fuel = 0
	holds(t, w, true, "a", "$$ == $$", `"a" != "b"`, "defined(A) && target(t)", "exists(d)", "1 || $A", "!(0 && $A)")
	w.Fuel = math.MaxInt
	holds(t, w, true, "$A == 10", "!empty(S)")
}

// P10.2: how parts bind.
func TestBinding(t *testing.T) {
	w := world(t)
	holds(t, w, true, "1||0&&0", "0&&0||1", "1&&1||0", "1||1&&0", "0||1||0", "1&&1&&1", "!0&&1", "!0||1", "!1||1", "!(1&&0)", "!1&&0||1", "!(0||0)", "!!1", "!!!0", "(0||1)&&1", "1&&(0||1)", "!1 == 0", "!a == b", "! a == b && c",
		"(((1)))", "!(!(1))", "0||(0||(0||1))", "1 == 1 && 2 == 2 || 0", `!"" && !0`, "!defined(C) && defined(A)", "!2 < 1")
	holds(t, w, false, "(1||0)&&0", "0&&(0||1)", "1&&0", "0||0", "1&&1&&0", "1&&0&&1", "!1||0", "!1&&0", "!(1||0)", "!(1&&1)", "!1", "!!0", "!a == a", "!(1) || 0", "0 || !1", "!1 || 0 && 1", "!0 == 0", "!0 && 0", "!1 < 2")
}

// P10.2 and P10.4: what is not asked tells nothing.
func TestNotAsked(t *testing.T) {
	w := world(t)
	for _, s := range []string{"$L", "${A:Bad}", "a < 1", "empty(L)", "defined(${O})", "$L && 1", "!$L", "($L)", "!(a<1)||1", "exists($L)"} {
		holds(t, w, true, "1 || "+s, "0 || 1 || "+s, "1 || 0 && "+s, "(1 || "+s+") && 1", "!(0 && ("+s+"))", "0 && ("+s+") || 1", "1 && 1 || "+s+" || "+s, "defined(A)||"+s)
		holds(t, w, false, "0 && ("+s+")", "1 && 0 && ("+s+")", "!(1 || "+s+")", "0 && ("+s+") && 1", "0 && 1 && ("+s+") || 0", "(0 && ("+s+")) || 0")
		for _, asked := range []string{"0 || ", "1 && ", "0 && 0 || ", "0 || 1 && ", "(1 || 0) && ", "(0 && 1) || ", "!1 || ", "!0 && "} {
			if is, f := Holds(asked+"("+s+")", w); is || f.Why == api.OK {
				t.Errorf("Holds(%s(%s)) = %t, %v, want a fault", asked, s, is, f)
			}
		}
	}
}

// P10.2 and P10.4: no note is made, and the world is as it was.
func TestTurnsNothing(t *testing.T) {
	w := world(t)
	goals, targets, commands := slices.Clone(w.Goals), slices.Clone(w.Targets), slices.Clone(w.Commands)
	clock, names := w.Store.Clock(), w.Vars.Names(vars.Global)
	w.Store.Notes(true)
	for _, s := range []string{"exists(d/f) && exists(d) && !exists(x) && !exists(d/f/g)", "1 || exists(d/f)", "0 && exists(d/f)", "defined(C) || ${C} == ${A} || make(*) && target(*) || commands(x)", "empty(S:O) && $C", "$L", "exists(${L})", "a b"} {
		first, fault := Holds(s, w)
		if again, f := Holds(s, w); again != first || f != fault {
			t.Errorf("Holds(%s) = %t, %v, and again %t, %v", s, first, fault, again, f)
		}
	}
	if notes := w.Store.Notes(false); len(notes) != 0 {
		t.Errorf("it was noted: %v", notes)
	}
	if w.Store.Clock() != clock || !slices.Equal(w.Store.All(), []string{"/A", "/a b", "/d/f"}) || !slices.Equal(w.Vars.Names(vars.Global), names) {
		t.Errorf("the store or the variables are others")
	}
	for scope := vars.Local; scope <= vars.Env; scope++ {
		if scope != vars.Global && len(w.Vars.Names(scope)) > 0 {
			t.Errorf("scope %d has %v", scope, w.Vars.Names(scope))
		}
	}
	if !slices.Equal(w.Goals, goals) || !slices.Equal(w.Targets, targets) || !slices.Equal(w.Commands, commands) {
		t.Errorf("lists were turned: %v %v %v", w.Goals, w.Targets, w.Commands)
	}
}

// R1: in a world of nothing, too, each call ends.
func TestNoWorld(t *testing.T) {
	w := World{}
	holds(t, w, true, "a", "!defined(A)", "1 < 2", "!exists(/)", "!make(*)", "!target()", "!commands()")
	fails(t, w, "$A", api.ErrFuel, 0)
	w.Fuel = 10
	holds(t, w, true, "empty(A)", `$A == ""`)
	w.Vars, w.Store = &vars.Set{}, &vfs.Store{}
	holds(t, w, false, "defined(A)", "exists(/)")
}
