package mods

import (
	"math/rand"
	"runtime"
	"slices"
	"strings"
	"testing"

	"bobstay/api"
	"bobstay/glob"
)

// listed are the words of a test: blanks part them, and "" is an empty one.
func listed(s string) []string {
	l := strings.Fields(s)
	for i, w := range l {
		if w == `""` {
			l[i] = ""
		}
	}
	return l
}

// made fails unless a chain makes the one list of words of the other.
func made(t *testing.T, chain, words, want string) {
	t.Helper()
	l, e := All(chain, listed(words)...)
	if e != api.OK || !slices.Equal(l, listed(want)) {
		t.Errorf("All(%q, %s) = %q, %d, want %s", chain, words, l, e, want)
	}
}

func TestExample(t *testing.T) {
	made(t, "M*.c:S/x/y/:.c=.o", "ax.c b.h xx.c", "ay.o yx.o")
}

// TestFaults: P6.1.
func TestFaults(t *testing.T) {
	tests := []struct {
		s   string
		why api.Errno
		at  int
	}{
		// None at all, and empty ones.
		{"x", api.ErrMods, 0},
		{" ", api.ErrMods, 0},
		{":", api.ErrMods, 0},
		{":T", api.ErrMods, 0},
		{"T:", api.ErrMods, 2},
		{"T::T", api.ErrMods, 2},
		{"T:x:T", api.ErrMods, 2},
		{"T:O:x:y", api.ErrMods, 4},
		{"T:S/a:x/b/:y", api.ErrMods, 11},
		{`M\::x`, api.ErrMods, 4},
		{"Tx", api.ErrMods, 0},
		{"TT", api.ErrMods, 0},
		{"T ", api.ErrMods, 0},
		{" T", api.ErrMods, 0},
		{"Ox", api.ErrMods, 0},
		{"Orr", api.ErrMods, 0},
		{"rO", api.ErrMods, 0},
		{"uu", api.ErrMods, 0},
		{"t", api.ErrMods, 0},
		{"tx", api.ErrMods, 0},
		{"tlu", api.ErrMods, 0},
		{"Q1", api.ErrMods, 0},
		{"m*", api.ErrMods, 0},
		{"h", api.ErrMods, 0},
		{`T\:`, api.ErrMods, 0},
		{`T\:T`, api.ErrMods, 0},
		// What no d is.
		{"S", api.ErrMods, 0},
		{"C", api.ErrMods, 0},
		{"T:S", api.ErrMods, 2},
		{"Sxaxbx", api.ErrMods, 0},
		{"SXaXbX", api.ErrMods, 0},
		{"S1a1b1", api.ErrMods, 0},
		{"Szazbz", api.ErrMods, 0},
		{"SAaAbA", api.ErrMods, 0},
		{"SZaZbZ", api.ErrMods, 0},
		{"S0a0b0", api.ErrMods, 0},
		{"S9a9b9", api.ErrMods, 0},
		{"S a b ", api.ErrMods, 0},
		{"S\ta\tb\t", api.ErrMods, 0},
		{`S\a\b\`, api.ErrMods, 0},
		{"Caxaya", api.ErrMods, 0},
		// A d that is missing.
		{"S/", api.ErrEnd, 0},
		{"S/a", api.ErrEnd, 0},
		{"S//", api.ErrEnd, 0},
		{"S/a/", api.ErrEnd, 0},
		{"S/a/b", api.ErrEnd, 0},
		{"S/a/b:T", api.ErrEnd, 0},
		{"S/a=b", api.ErrEnd, 0},
		{`S/a/b\/`, api.ErrEnd, 0},
		{`S/a\/b/`, api.ErrEnd, 0},
		// A \ right ahead of d takes it, whatever is ahead of both.
		{`S/a/\\/`, api.ErrEnd, 0},
		{"S:", api.ErrEnd, 0},
		{"S:a", api.ErrEnd, 0},
		{"S:T:T", api.ErrEnd, 0},
		{"C/", api.ErrEnd, 0},
		{"C/a", api.ErrEnd, 0},
		{"C/a/b", api.ErrEnd, 0},
		{"T:tl:C,a,b", api.ErrEnd, 5},
		// An expression that may not be.
		{"C/(/b/", api.ErrMods, 0},
		{"C/*/b/", api.ErrMods, 0},
		{"C/[b-a]/b/", api.ErrMods, 0},
		{`C/a\/b/`, api.ErrEnd, 0},
		{`C,a\\,b,`, api.ErrEnd, 0},
		{"T:C/)/b/g:x", api.ErrMods, 2},
		{"C/" + strings.Repeat("a", 201) + "/b/", api.ErrMods, 0},
		// It is told of ahead of a d that is missing behind it.
		{"C/(/b", api.ErrMods, 0},
		{"C/(", api.ErrEnd, 0},
		// Flags that may not be.
		{"S/a/b/x", api.ErrMods, 0},
		{"S/a/b/gg", api.ErrMods, 0},
		{"S/a/b/11", api.ErrMods, 0},
		{"S/a/b/g1g", api.ErrMods, 0},
		{"S/a/b/1g1", api.ErrMods, 0},
		{"S/a/b/g ", api.ErrMods, 0},
		{"S/a/b/2", api.ErrMods, 0},
		{"S/a/b/G", api.ErrMods, 0},
		{"S/a/b//", api.ErrMods, 0},
		{"S/a/b/x=y", api.ErrMods, 0},
		{`S/a/b/g\:1`, api.ErrMods, 0},
		{"T:C/a/b/gx:T", api.ErrMods, 2},
		// What stands in [ and ].
		{"[", api.ErrEnd, 0},
		{"[1", api.ErrEnd, 0},
		{"[1:T", api.ErrEnd, 0},
		{"[x", api.ErrEnd, 0},
		{"[1=2", api.ErrEnd, 0},
		{"T:[#", api.ErrEnd, 2},
		{"]", api.ErrMods, 0},
		{"[]", api.ErrMods, 0},
		{"[x]", api.ErrMods, 0},
		{"[##]", api.ErrMods, 0},
		{"[*#]", api.ErrMods, 0},
		{"[1:T]", api.ErrMods, 0},
		{"[1]x", api.ErrMods, 0},
		{"[1]]", api.ErrMods, 0},
		{"[1]=x", api.ErrMods, 0},
		{"[-]", api.ErrMods, 0},
		{"[--1]", api.ErrMods, 0},
		{"[+1]", api.ErrMods, 0},
		{"[1-]", api.ErrMods, 0},
		{"[1x]", api.ErrMods, 0},
		{"[1x1]", api.ErrMods, 0},
		{"[1 ]", api.ErrMods, 0},
		{"[ 1]", api.ErrMods, 0},
		{"[1_0]", api.ErrMods, 0},
		{"[0x1]", api.ErrMods, 0},
		{"[1234567]", api.ErrMods, 0},
		{"[0000001]", api.ErrMods, 0},
		{"[-1234567]", api.ErrMods, 0},
		{"[1..]", api.ErrMods, 0},
		{"[..1]", api.ErrMods, 0},
		{"[..]", api.ErrMods, 0},
		{"[1.2]", api.ErrMods, 0},
		{"[1...2]", api.ErrMods, 0},
		{"[1..2..3]", api.ErrMods, 0},
		{"[1..x]", api.ErrMods, 0},
		{"[x..1]", api.ErrMods, 0},
		{"[1..1234567]", api.ErrMods, 0},
		{"[1234567..1]", api.ErrMods, 0},
		{"[1..#]", api.ErrMods, 0},
		{"[99999999999999999999]", api.ErrMods, 0},
	}
	for _, x := range tests {
		l, f := Parse(x.s)
		if len(l) != 0 || f != (api.Fault{Why: x.why, At: x.at}) {
			t.Errorf("Parse(%q) = %v, %v, want %d at %d", x.s, l, f, x.why, x.at)
		}
		if w, e := All(x.s, "a", "b"); len(w) != 0 || e != x.why {
			t.Errorf("All(%q) = %q, %d, want %d", x.s, w, e, x.why)
		}
		if w, e := All(x.s, make([]string, api.MaxWords+1)...); len(w) != 0 || e != x.why {
			t.Errorf("All(%q) of too many words = %q, %d, want %d", x.s, w, e, x.why)
		}
	}
}

// TestCount: P6.1: how many modifiers there may be.
func TestCount(t *testing.T) {
	tests := []struct {
		s    string
		many int
		why  api.Errno
		at   int
	}{
		{"", 0, 0, 0},
		{"T", 1, 0, 0},
		{"M", 1, 0, 0},
		{"M:N", 2, 0, 0},
		{"=", 1, 0, 0},
		{"S/a:b/c:d/:T", 2, 0, 0},
		{"S:a:b::T", 2, 0, 0},
		{`Ma\:b:Nc\:d:\:=\:`, 3, 0, 0},
		{"[#]:[*]:[1]:[-1..2]", 4, 0, 0},
		{strings.Repeat("T:", 31) + "T", 32, 0, 0},
		{strings.Repeat("T:", 32) + "T", 0, api.ErrMany, 64},
		{strings.Repeat("T:", 32) + "S/a/b/:T", 0, api.ErrMany, 64},
		{strings.Repeat("T:", 100) + "T", 0, api.ErrMany, 64},
		{strings.Repeat("tl:", 40) + "x", 0, api.ErrMany, 96},
		// What else is wrong with the 33rd is told of first.
		{strings.Repeat("T:", 32), 0, api.ErrMods, 64},
		{strings.Repeat("T:", 32) + "x", 0, api.ErrMods, 64},
		{strings.Repeat("T:", 32) + "S/a", 0, api.ErrEnd, 64},
		{strings.Repeat("T:", 31) + "x:T", 0, api.ErrMods, 62},
	}
	for _, x := range tests {
		l, f := Parse(x.s)
		if len(l) != x.many || f != (api.Fault{Why: x.why, At: x.at}) {
			t.Errorf("Parse(%q) = %d modifiers, %v, want %d, {%d %d}", x.s, len(l), f, x.many, x.why, x.at)
		}
	}
}

// TestMade: P6.2, by the rows of the table.
func TestMade(t *testing.T) {
	tests := []struct{ chain, words, want string }{
		{"", "b a", "b a"},
		{"", "", ""},

		{"M*.c", "a.c b.h c.c", "a.c c.c"},
		{"N*.c", "a.c b.h c.c", "b.h"},
		{"M[ab]", "a b c", "a b"},
		{"N[ab]", "a b c", "c"},
		{"M", `a "" b`, `""`},
		{"N", `a "" b`, "a b"},
		{"M*", `a "" b`, `a "" b`},
		{"N*", `a "" b`, ""},
		{`Ma\:b`, "a:b a b", "a:b"},
		{`Ma\\*`, `a* a\* a\b ab`, `a\* a\b`},
		{`Ma\*`, `a* ab`, "a*"},
		{`M\\:`, ": a", ":"},
		{`M*\:*:N*\:c`, "a:b a:c ab", "a:b"},
		{`Ma\`, `a\ a`, `a\`},
		{"Mx=y", "x x=y", "x=y"},
		{"MM", "M N", "M"},
		{"M ", "a", ""},

		{"S/x/y/", "axbx x b", "aybx y b"},
		{"S/x/y/g", "axbx x b", "ayby y b"},
		{"S/x/y/1", "b axbx x", "b aybx x"},
		{"S/x/y/g1", "b axbx x", "b ayby x"},
		{"S/x/y/1g", "b axbx x", "b ayby x"},
		{"S/x/x/1", "x x", "x x"},
		{"S/aa/b/", "aaaaa", "baaa"},
		{"S/aa/b/g", "aaaaa", "bba"},
		{"S/aba/x/g", "ababa", "xba"},
		{"S/a//", "abca a", `bca ""`},
		{"S/a//g", "abca a", `bc ""`},
		{"S/^a/x/", "aa ba a", "xa ba x"},
		{"S/^a/x/g", "aa ba a", "xa ba x"},
		{"S/a$/x/", "aa ab a", "ax ab x"},
		{"S/a$/x/g", "aa ab a", "ax ab x"},
		{"S/^a$/x/", "aa ab a", "aa ab x"},
		{"S/^ab$/x/", "ab abab a b abb aab", "x abab a b abb aab"},
		{"S/^a/x/1", "ba aa aa", "ba xa aa"},
		{"S/a$/x/1", "ab aa aa", "ab ax aa"},
		{"S//x/", `ab ""`, "xab x"},
		{"S//x/g", `ab ""`, "xab x"},
		{"S//x/1", `ab ""`, `xab ""`},
		{"S/^/x/", `ab ""`, "xab x"},
		{"S/^/x/g", `ab ""`, "xab x"},
		{"S/$/x/", `ab ""`, "abx x"},
		{"S/$/x/g", `ab ""`, "abx x"},
		{"S/$/x/1", `ab cd`, "abx cd"},
		{"S/^$/x/", `ab ""`, "ab x"},
		{"S/^$/x/1", `ab "" ""`, `ab x ""`},
		{"S/a^/x/", "a^b ab", "xb ab"},
		{"S/$a/x/", "$ab ab", "xb ab"},
		{"S/^^/x/", "^a a", "xa a"},
		{"S/$$/x/", "a$ a", "ax a"},
		{"S/$^/x/", "$^a a", "xa a"},
		{"S/a/<&&>/", "ba", "b<aa>"},
		{"S/a/<&>/g", "aba", "<a>b<a>"},
		{"S/^ab/&c/", "abd", "abcd"},
		{"S/ab$/&c/", "dab", "dabc"},
		{"S//&x/", "a", "xa"},
		{"S/$/&x/", "a", "ax"},
		{`S/a/\&/`, "a", `\a`},
		{`S/a/\\/b/`, "a", `\/b`},
		{`S/a/x\/y/`, "a", "x/y"},
		{`S/a\/b/x/`, "ca/bd ab", "cxd ab"},
		{`S,a\/b,x,`, `ca\/bd a/b`, "cxd a/b"},
		{`S&a&b\&&`, "a", "ba"},
		{`S^\^a^x^`, "ab ba", "xb ba"},
		{`S$a\$$x$`, "ab ba", "ab bx"},
		{"S:a:b:", "a", "b"},
		{"S:a:b:g:T", "a/a a", "b b"},
		{`S:\::;:`, "a:b", "a;b"},
		{"S=a=b=", "a", "b"},
		{"S]a]b]", "a", "b"},
		{"S\xffa\xffb\xff", "a", "b"},
		{"S/a:T/b/", "a:T a", "b a"},
		{"S/é/e/", "été", "eté"},
		{"S/a.c/x/", "abc a.c", "abc x"},

		{"C/a+/x/", "baab b aa", "bxb b x"},
		{"C/a/x/", "aa", "xa"},
		{"C/a/x/g", "aa", "xx"},
		{"C/a/x/1", "b aa a", "b xa a"},
		{"C/a/x/g1", "b aa a", "b xx a"},
		{"C/a|b/<&>/g", "abc", "<a><b>c"},
		{`C/a/\&/`, "a", "&"},
		{`C/a/\\\&/`, "a", `\&`},
		{`C/a/x\\/b/`, "a", "x/b"},
		{`C/a/x\b/`, "a", "xb"},
		{"C/^a/x/g", "aa ba", "xa ba"},
		{"C/a$/x/g", "aa ab", "ax ab"},
		{"C/^$/x/", `"" a`, "x a"},
		{"C/^/x/", `"" a`, "x xa"},
		{"C/$/x/", `"" a`, "x ax"},
		{"C/$/x/g", `"" a`, "x ax"},
		{"C//x/", "ab", "xab"},
		{"C//x/1", "ab c", "xab c"},
		{"C//x/g", "ab", "xaxbx"},
		{"C/b*/x/g", "abba", "xaxxax"},
		{"C/a/&/1", "a a", "a a"},
		{`C/a\/b/x/`, "a/b", "x"},
		{`C.a\.b.x.`, "azb", "x"},
		{`C|a\|b|x|g`, "abc", "xxc"},
		{"C:a:b:", "a", "b"},
		{"C/a:b/x/:T", "c/a:b", "x"},
		{"C/(a)(b)/<&>/", "xaby", "x<ab>y"},

		{"T", `a/b.c b /a / a/ ""`, `b.c b a "" "" ""`},
		{"H", `a/b.c b /a / a/ ""`, "a . / / a ."},
		{"E", `a/b.c b c.x.y .d a. d/.e d.e/f ""`, `c y ""`},
		{"R", `a/b.c b c.x.y .d a. d/.e d.e/f ""`, `a/b b c.x .d a d/.e d.e/f ""`},

		{"O", "b a c a B", "B a a b c"},
		{"Or", "b a c a B", "c b a a B"},
		{"O", "a10 a9 a ab", "a a10 a9 ab"},
		{"O", "b \xff a é", "a b é \xff"},
		{"O", `b "" a`, `"" a b`},
		{"u", "a a b a a b b", "a b a b"},
		{"u", `"" "" a`, `"" a`},
		{"O:u", "b a b a", "a b"},
		{"r", "a b c", "c b a"},
		{"O", "", ""},
		{"Or", "", ""},
		{"u", "", ""},
		{"r", "", ""},

		{"tl", "AbZ@[`{ é ÉT", "abz@[`{ é Ét"},
		{"tu", "aBz@[`{ é ÉT", "ABZ@[`{ é ÉT"},
		{"tu", "a\xffz", "A\xffZ"},

		{"[#]", "a b c", "3"},
		{"[#]", `a ""`, "2"},
		{"[#]", "", "0"},
		{"[*]:[#]", "a b c", "1"},
		{"[*]", "", ""},
		{"[*]", `""`, `""`},
		{"[*]:S/ /+/g", `a "" b c`, "a+b+c"},
		{"[1]", "a b c", "a"},
		{"[3]", "a b c", "c"},
		{"[4]", "a b c", ""},
		{"[0]", "a b c", ""},
		{"[-0]", "a b c", ""},
		{"[-1]", "a b c", "c"},
		{"[-3]", "a b c", "a"},
		{"[-4]", "a b c", ""},
		{"[000002]", "a b c", "b"},
		{"[-000002]", "a b c", "b"},
		{"[999999]", "a b c", ""},
		{"[-999999]", "a b c", ""},
		{"[1]", "", ""},
		{"[-1]", "", ""},
		{"[1..2]", "a b c", "a b"},
		{"[2..3]", "a b c", "b c"},
		{"[2..2]", "a b c", "b"},
		{"[3..1]", "a b c", "c b a"},
		{"[3..2]", "a b c", "c b"},
		{"[1..-1]", "a b c", "a b c"},
		{"[-1..1]", "a b c", "c b a"},
		{"[-2..-1]", "a b c", "b c"},
		{"[-1..-2]", "a b c", "c b"},
		{"[2..-2]", "a b c", "b"},
		{"[0..2]", "a b c", ""},
		{"[2..0]", "a b c", ""},
		{"[1..4]", "a b c", ""},
		{"[4..1]", "a b c", ""},
		{"[-4..1]", "a b c", ""},
		{"[1..-4]", "a b c", ""},
		{"[1..1]", "", ""},
		{"[2]:[1]", "a b c", "b"},

		{".c=.o", "a.c b.h .c c.cc", "a.o b.h .o c.cc"},
		{"c=", "a.c c d", `a. "" d`},
		{"=.o", `a "" b.c`, "a.o .o b.c.o"},
		{"=", "a b", "a b"},
		{"a=b=c", "xa a=b", "xb=c a=b"},
		{"a=%", "xa", "x%"},
		{"%.c=%.o", "a.c b.h .c", "a.o b.h .o"},
		{"a%b=<%>", "axb ab a b aab xaxb axbx", "<x> <> a b <a> xaxb axbx"},
		{"ab%ba=<%>", "aba abba abcba", "aba <> <c>"},
		{"%=x", "a b", "x x"},
		{"%=%%", `a "" %`, `a% % %%`},
		{"%=a%b%", "x", "axb%"},
		{"a%=%", "ab b", "b b"},
		{"%a=%", "ba b", "b b"},
		{"%%=x%", "a% a %", "xa a x"},
		{"%a%=<%>", "xa% xa", "<x> xa"},
		{"a%=%", "a% ab", "% b"},
		{`a\:b=c\:d`, "xa:b xab", "xc:d xab"},
		{`a\=b`, `a\ a`, "b a"},
		{`=\:`, "a", "a:"},
		{`a=\`, "xa", `x\`},
		{`\\:=x`, `a\: a:`, "ax a:"},
		// How it begins tells which one it is, but all of it must fit.
		{"T=x", "aT", "ax"},
		{"Or=x", "Or", "x"},
		{"tl=x", "atl T", "ax T"},
		{"Sx=y", "aSx x", "ay x"},
		{"Cx=y", "aCx x", "ay x"},
		{"S =y", "a", "a"},
		{`S\:=y`, "S: S", "y S"},
		{"u=v", "u", "v"},
		{"]=x", "a]", "ax"},
	}
	for _, x := range tests {
		made(t, x.chain, x.words, x.want)
	}
}

// one fails unless a chain makes one word of words.
func one(t *testing.T, want, chain string, words ...string) {
	t.Helper()
	l, e := All(chain, words...)
	if e != api.OK || len(l) != 1 || l[0] != want {
		t.Errorf("All(%.40q, %.40q) = %.40q, %d, want %.40q", chain, words, l, e, want)
	}
}

// TestOne: P6.2: words with blanks in them.
func TestOne(t *testing.T) {
	one(t, "''", "Q")
	one(t, "''", "Q", "")
	one(t, "''", "Q", "", "")
	one(t, "a", "Q", "a")
	one(t, "'a b'", "Q", "a", "b")
	one(t, "'a b'", "Q", "a", "", "b")
	one(t, `'it'\''s'`, "Q", "it's")
	one(t, `'a  b c'`, "Q", "a  b", "c")
	one(t, "a b", "[*]", "a", "b")
	one(t, "a  b c", "[*]", "a  b", "c")
	one(t, "1", "[#]", "a b")
	one(t, "a  b", "M* *", "a  b", "c")
	one(t, "a c", "S/ b//", "a b c")
	one(t, "", "T", "a/")
}

// TestLong: P6.2: C leaves words of more than 256 bytes as they are, and looks
// for no place in them.
func TestLong(t *testing.T) {
	at, above := strings.Repeat("a", 256), strings.Repeat("a", 257)
	for _, x := range []struct{ chain, word, want string }{
		{"C/a/b/", at, "b" + at[1:]},
		{"C/a/b/g", at, strings.Repeat("b", 256)},
		{"C/a/b/", above, above},
		{"C/a/b/g", above, above},
		{"S/a/b/", above, "b" + at},
		{"S/a/b/g", above, strings.Repeat("b", 257)},
	} {
		one(t, x.want, x.chain, x.word)
	}
	l, e := All("C/a/b/1", above, "a", "a")
	if e != api.OK || !slices.Equal(l, []string{above, "b", "a"}) {
		t.Error(l, e)
	}
}

// TestMany: P6.2: ErrMany.
func TestMany(t *testing.T) {
	words := func(n int, w string) []string { return slices.Repeat([]string{w}, n) }
	bytes := func(n int) []string { return []string{strings.Repeat("a", n)} }
	tests := []struct {
		chain string
		words []string
		want  api.Errno
		many  int
	}{
		// Ahead of all modifiers.
		{"", words(4096, ""), api.OK, 4096},
		{"", words(4097, ""), api.ErrMany, 0},
		{"", words(4096, strings.Repeat("a", 16)), api.OK, 4096},
		{"", append(words(4095, strings.Repeat("a", 16)), strings.Repeat("a", 17)), api.ErrMany, 0},
		{"", bytes(1 << 16), api.OK, 1},
		{"", bytes(1<<16 + 1), api.ErrMany, 0},
		{"Mx", words(4096, "a"), api.OK, 0},
		{"Mx", words(4097, "a"), api.ErrMany, 0},
		{"Mx", bytes(1 << 16), api.OK, 0},
		{"Mx", bytes(1<<16 + 1), api.ErrMany, 0},
		{"[#]", words(4096, "a"), api.OK, 1},
		{"[#]", words(4097, "a"), api.ErrMany, 0},
		{"[#]", bytes(1<<16 + 1), api.ErrMany, 0},
		// Behind one.
		{"T", bytes(1 << 16), api.OK, 1},
		{"S/$/x/", bytes(1<<16 - 1), api.OK, 1},
		{"S/$/x/", bytes(1 << 16), api.ErrMany, 0},
		{"S/$/x/:[#]", bytes(1 << 16), api.ErrMany, 0},
		{"S/$/x/:Mx", bytes(1 << 16), api.ErrMany, 0},
		{"S/$/x/", words(4096, strings.Repeat("a", 15)), api.OK, 4096},
		{"S/$/x/", append(words(4095, strings.Repeat("a", 15)), strings.Repeat("a", 16)), api.ErrMany, 0},
		{"S/a/bb/g", bytes(1 << 15), api.OK, 1},
		{"S/a/bb/g", bytes(1<<15 + 1), api.ErrMany, 0},
		{"S/a/&&/g", bytes(1 << 15), api.OK, 1},
		{"S/a/&&/g", bytes(1<<15 + 1), api.ErrMany, 0},
		{"S/a/&b/g:S/ab/a/g", bytes(1<<15 + 1), api.ErrMany, 0},
		{"S/^/bb/", bytes(1<<16 - 2), api.OK, 1},
		{"S/^/bb/", bytes(1<<16 - 1), api.ErrMany, 0},
		{"S/a/bbb/", bytes(1<<16 - 2), api.OK, 1},
		{"S/a/bbb/", bytes(1<<16 - 1), api.ErrMany, 0},
		{`S/a/\&\&/g`, bytes(1 << 14), api.OK, 1},
		{`S/a/\&\&/g`, bytes(1<<14 + 1), api.ErrMany, 0},
		{"C/a/" + strings.Repeat("b", 256) + "/g", words(1, strings.Repeat("a", 256)), api.OK, 1},
		{"C/a/" + strings.Repeat("b", 256) + "/g:[#]", append(words(1, strings.Repeat("a", 256)), "c"), api.ErrMany, 0},
		{"C/a/" + strings.Repeat("&", 256) + "/g", words(1, strings.Repeat("a", 256)), api.OK, 1},
		{"C/a*/" + strings.Repeat("&", 256) + "/", words(1, strings.Repeat("a", 256)), api.OK, 1},
		{"S/a$/bb/g", bytes(1<<16 - 1), api.OK, 1},
		{"S/^a/bb/g", bytes(1<<16 - 1), api.OK, 1},
		{"C/a/" + strings.Repeat("b", 300) + "/", words(1, strings.Repeat("a", 256)), api.OK, 1},
		{"C/x*/" + strings.Repeat("b", 300) + "/", words(1, strings.Repeat("a", 256)), api.OK, 1},
		{"C/a*/" + strings.Repeat("&", 257) + "/", words(1, strings.Repeat("a", 256)), api.ErrMany, 0},
		{"C/a/" + strings.Repeat(`\b`, 256) + "/g", words(1, strings.Repeat("a", 256)), api.OK, 1},
		{"C/a/" + strings.Repeat(`\b`, 257) + "/g", words(1, strings.Repeat("a", 256)), api.ErrMany, 0},
		{"C/a/" + strings.Repeat(`\&`, 256) + "/g", words(1, strings.Repeat("a", 256)), api.OK, 1},
		{"C/a/" + strings.Repeat(`\&`, 257) + "/g", words(1, strings.Repeat("a", 256)), api.ErrMany, 0},
		{"C/a/" + strings.Repeat("b", 255) + `\/g`, words(1, strings.Repeat("a", 256)), api.ErrEnd, 0},
		{"C,a," + strings.Repeat("b", 255) + `\&,g`, words(1, strings.Repeat("a", 256)), api.OK, 1},
		{"=x", words(4096, strings.Repeat("a", 15)), api.OK, 4096},
		{"=xx", words(4096, strings.Repeat("a", 15)), api.ErrMany, 0},
		{"%=%x", bytes(1<<16 - 1), api.OK, 1},
		{"%=%x", bytes(1 << 16), api.ErrMany, 0},
		{"Q", bytes(1 << 16), api.OK, 1},
		{"Q", words(1, strings.Repeat("a", 1<<16-6)+"'"), api.OK, 1},
		{"Q", words(1, strings.Repeat("a", 1<<16-5)+"'"), api.ErrMany, 0},
		{"Q", []string{strings.Repeat("a", 1<<16-4), "b"}, api.OK, 1},
		{"Q", []string{strings.Repeat("a", 1<<16-3), "b"}, api.ErrMany, 0},
		{"[*]", words(2, strings.Repeat("a", 1<<15)), api.ErrMany, 0},
		{"[*]", append(bytes(1<<15), strings.Repeat("a", 1<<15-1)), api.OK, 1},
		{"[*]:[#]", words(2, strings.Repeat("a", 1<<15)), api.ErrMany, 0},
		{"H", append(bytes(1<<15), "b/"+strings.Repeat("a", 1<<15-2)), api.OK, 2},
		{"H", append(words(2, ""), strings.Repeat("a", 1<<16-2)+"/b"), api.OK, 3},
		{"H", append(words(3, ""), strings.Repeat("a", 1<<16-2)+"/b"), api.ErrMany, 0},
	}
	for _, x := range tests {
		l, e := All(x.chain, x.words...)
		if e != x.want || len(l) != x.many {
			t.Errorf("All(%.20q, %d words of %.5q...) = %d words, %d, want %d, %d",
				x.chain, len(x.words), x.words[0], len(l), e, x.many, x.want)
		}
	}
}

// TestHuge: P6.2: what would have no room in memory is not made.
func TestHuge(t *testing.T) {
	many := slices.Repeat([]string{strings.Repeat("a", 256)}, 256)
	long := []string{strings.Repeat("a", 1<<16)}
	const big = 1 << 22
	for _, x := range []struct {
		chain string
		words []string
		most  uint64 // how many bytes of memory may be taken
	}{
		{"S/a/" + strings.Repeat("b", big) + "/g", long, 1 << 20},
		{"S/a/" + strings.Repeat("b", big) + "/", long, 1 << 20},
		{"S/a/" + strings.Repeat("&", big) + "/g", long, 1 << 20},
		{"S/^/" + strings.Repeat("b", big) + "/", long, 1 << 20},
		{"S/a/" + strings.Repeat("b", 60000) + "/g", long, 1 << 20},
		{"S/a/" + strings.Repeat("&", 60000) + "/g", long, 1 << 20},
		{"S/a/" + strings.Repeat("b", 60000) + "/g", many, 1 << 20},
		{"S/" + strings.Repeat("a", 256) + "/" + strings.Repeat("&", 60000) + "/", many, 1 << 20},
		{"C/a/" + strings.Repeat("b", big) + "/g", many, 1 << 20},
		{"C/a/" + strings.Repeat("&", big) + "/g", many, 1 << 20},
		{"C/a*/" + strings.Repeat("&", big) + "/", many, 1 << 20},
		{"C/a/" + strings.Repeat(`\&`, big) + "/g", many, 1 << 20},
		{"C/a/" + strings.Repeat("b", 60000) + "/g", many, 1 << 20},
		{"C/x*/" + strings.Repeat("b", 60000) + "/g", many, 1 << 20},
		{"a=" + strings.Repeat("b", big), many, 1 << 24},
		{"%=" + strings.Repeat("b", big), many, 1 << 24},
		{"%=" + strings.Repeat("%", big), many, 1 << 24},
	} {
		l, f := Parse(x.chain)
		var ahead, behind runtime.MemStats
		runtime.ReadMemStats(&ahead)
		made, e := Apply(l, x.words...)
		runtime.ReadMemStats(&behind)
		if f.Why != api.OK || e != api.ErrMany || len(made) != 0 {
			t.Errorf("%.8q: %v, %d words, %d", x.chain, f, len(made), e)
		}
		if took := behind.TotalAlloc - ahead.TotalAlloc; took > x.most {
			t.Errorf("%.8q of %d words took %d bytes", x.chain, len(x.words), took)
		}
	}
	// Of an empty place no & has a byte, so that there is room.
	one(t, "ab", "S//"+strings.Repeat("&", big)+"/", "ab")
	one(t, "abx", "S/$/"+strings.Repeat("&", big)+"x/", "ab")
	one(t, "xab", "C/c*/"+strings.Repeat("&", big)+"x/", "ab")
	one(t, "xaxbx", "C/c*/"+strings.Repeat("&", big)+"x/g", "ab")
}

// TestUnmade: P6.2: a modifier that nobody read leaves the words as they are,
// and no call panics.
func TestUnmade(t *testing.T) {
	l, e := Apply([]Mod{{}, {}}, "b", "a")
	if e != api.OK || !slices.Equal(l, []string{"b", "a"}) {
		t.Error(l, e)
	}
	if l, e := Apply(nil, "b"); e != api.OK || !slices.Equal(l, []string{"b"}) {
		t.Error(l, e)
	}
	if l, e := Apply(nil); e != api.OK || len(l) != 0 {
		t.Error(l, e)
	}
	if l, e := Apply([]Mod{}, []string{}...); e != api.OK || len(l) != 0 {
		t.Error(l, e)
	}
}

// TestApart: R4: lists that are handed in stay as they are, and what is
// answered is the caller's; modifiers may be asked again.
func TestApart(t *testing.T) {
	for _, chain := range []string{"", "T", "M*", "O", "Or", "u", "r", "[1..-1]", "[-1..1]", "S/c/x/1", "C/c/x/1", "Q", "[*]", "%=%"} {
		l, f := Parse(chain)
		if f.Why != api.OK {
			t.Fatal(chain, f)
		}
		words := []string{"c", "a", "a", "c"}
		first, e := Apply(l, words...)
		if e != api.OK || !slices.Equal(words, []string{"c", "a", "a", "c"}) {
			t.Errorf("%q: %d, words are %q", chain, e, words)
		}
		kept := slices.Clone(first)
		for i := range words {
			words[i] = "z"
		}
		if !slices.Equal(first, kept) {
			t.Errorf("%q: answers share the words' memory", chain)
		}
		for i := range first {
			first[i] = "y"
		}
		again, e := Apply(l, "c", "a", "a", "c")
		if e != api.OK || !slices.Equal(again, kept) {
			t.Errorf("%q: %q behind %q", chain, again, kept)
		}
		joined := append(slices.Clone(l), l...)
		if _, e := Apply(joined, "c", "a"); e != api.OK {
			t.Errorf("%q twice: %d", chain, e)
		}
	}
}

// TestLongList: Apply takes more modifiers than Parse gives.
func TestLongList(t *testing.T) {
	l, _ := Parse(strings.Repeat("=x:", 31) + "=x")
	made, e := Apply(slices.Concat(l, l), "a")
	if e != api.OK || len(made) != 1 || made[0] != "a"+strings.Repeat("x", 64) {
		t.Error(made, e)
	}
}

func someWords(r *rand.Rand) []string {
	l := make([]string, r.Intn(6))
	for i := range l {
		l[i] = some(r, "ab./c", 4)
	}
	return l
}

func some(r *rand.Rand, alphabet string, most int) string {
	b := make([]byte, r.Intn(most+1))
	for i := range b {
		b[i] = alphabet[r.Intn(len(alphabet))]
	}
	return string(b)
}

// all is what a chain makes of words that it takes.
func all(t *testing.T, chain string, words []string) []string {
	t.Helper()
	l, e := All(chain, words...)
	if e != api.OK {
		t.Fatalf("All(%q, %q): %d", chain, words, e)
	}
	return l
}

// TestParted: P6.3.
func TestParted(t *testing.T) {
	r := rand.New(rand.NewSource(1))
	for range 20000 {
		p, words := some(r, `ab*?[]!-\.`, 5), someWords(r)
		var match, differ []string
		for _, w := range words {
			if glob.Match(p, w) {
				match = append(match, w)
			} else {
				differ = append(differ, w)
			}
		}
		if l := all(t, "M"+p, words); !slices.Equal(l, match) {
			t.Fatalf("M%s of %q: %q, want %q", p, words, l, match)
		}
		if l := all(t, "N"+p, words); !slices.Equal(l, differ) {
			t.Fatalf("N%s of %q: %q, want %q", p, words, l, differ)
		}
	}
}

// TestSorted: P6.4.
func TestSorted(t *testing.T) {
	r := rand.New(rand.NewSource(2))
	for range 5000 {
		words := someWords(r)
		rising := slices.Sorted(slices.Values(words))
		if l := all(t, "O", words); !slices.Equal(l, rising) {
			t.Fatalf("O of %q: %q", words, l)
		}
		slices.Reverse(rising)
		if l := all(t, "Or", words); !slices.Equal(l, rising) {
			t.Fatalf("Or of %q: %q", words, l)
		}
		if l := all(t, "r:r", words); !slices.Equal(l, words) {
			t.Fatalf("r:r of %q: %q", words, l)
		}
		once, twice := all(t, "u", words), all(t, "u:u", words)
		if !slices.Equal(once, twice) {
			t.Fatalf("u of %q: %q, twice %q", words, once, twice)
		}
	}
}

// TestChained: P6.5.
func TestChained(t *testing.T) {
	r := rand.New(rand.NewSource(3))
	kinds := []string{"M*a*", "N?", `M*\:*`, "S/a/:/", "S:a:b:g", "S/^/x/1", "C/a|b/<&>/g", "C:a:&:", "T", "H", "E", "R",
		"O", "Or", "u", "r", "tl", "tu", "Q", "[#]", "[*]", "[2]", "[-1..1]", ".a=.b", "%a=b%", `=\:`}
	chain := func() string {
		var l []string
		for range 1 + r.Intn(4) {
			l = append(l, kinds[r.Intn(len(kinds))])
		}
		return strings.Join(l, ":")
	}
	for range 20000 {
		words, first, second := someWords(r), chain(), chain()
		both := all(t, first+":"+second, words)
		if l := all(t, second, all(t, first, words)); !slices.Equal(l, both) {
			t.Fatalf("%q and %q of %q: %q, in one %q", first, second, words, l, both)
		}
	}
}
