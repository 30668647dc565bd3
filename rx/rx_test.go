package rx

import (
	"math/rand"
	"regexp"
	"strings"
	"sync"
	"testing"

	"bobstay/api"
)

func compiled(t testing.TB, s string) *Regex {
	t.Helper()
	r, fault := Compile(s)
	if fault != (api.Fault{}) || r == nil {
		t.Fatalf("Compile(%q) = %v, %v", s, r, fault)
	}
	return r
}

// texts are all texts of some bytes up to a length.
func texts(alphabet string, longest int) []string {
	all := []string{""}
	for begin := 0; longest > 0; longest-- {
		end := len(all)
		for _, s := range all[begin:end] {
			for i := range len(alphabet) {
				all = append(all, s+alphabet[i:i+1])
			}
		}
		begin = end
	}
	return all
}

// everyByte is a text of all bytes.
func everyByte() string {
	var b [256]byte
	for i := range b {
		b[i] = byte(i)
	}
	return string(b[:])
}

// P5.1: expressions that may be, with their text.
func TestCompileText(t *testing.T) {
	for _, s := range []string{
		"", "a", "|", "a|", "|a", "a||b", "||", "()", "(|)", "(a|)", "()*", "(()|a)+",
		"^", "$", "^*", "$+", "^?a", "a^b$c", ".*", "a*b+c?", "(a)*", "(a*)*", `\**`, `\\`, `\(`, `\)`, `\|`, `a\` + "\n",
		"]", "a]", "]*", "-", "a-b", "[a]", "[a]*", "[]]", "[^]]", "[]a]", "[^]a]", "[-]", "[^-]", "[-a]", "[a-]", "[^-a]", "[^a-]",
		"[--]", "[a-z]", "[a-a]", "[a-c-e]", "[+--]", "[--a]", "[]-a]", "[]-]", "[^^]", "[a^]", `[\]`, `[\]]`, `[a\]`, `[*+?|()]`, "[(]", "[[]", "[.]",
		"{", "}", "&", "/", ",", "\x00", "\xff\x80", "[\x00-\xff]",
	} {
		r, fault := Compile(s)
		if fault != (api.Fault{}) || r == nil {
			t.Errorf("Compile(%q) = %v, %v", s, r, fault)
			continue
		}
		if got := r.Text(); got != s {
			t.Errorf("the text of %q is %q", s, got)
		}
		r.Find(s, 0)
		if got := r.Text(); got != s {
			t.Errorf("the text of %q, once it was asked, is %q", s, got)
		}
	}
}

// P5.1: expressions that may not be.
func TestCompileFaults(t *testing.T) {
	for _, c := range []struct {
		text string
		why  api.Errno
		at   int
	}{
		// A *, + or ? with no thing ahead.
		{"*", api.ErrForm, 0}, {"+", api.ErrForm, 0}, {"?", api.ErrForm, 0}, {"*a", api.ErrForm, 0},
		{"a|*", api.ErrForm, 2}, {"a|+b", api.ErrForm, 2}, {"|?", api.ErrForm, 1},
		{"(*)", api.ErrForm, 1}, {"a(+a)", api.ErrForm, 2}, {"(a|?)", api.ErrForm, 3},
		{"a**", api.ErrForm, 2}, {"a*+", api.ErrForm, 2}, {"a+?", api.ErrForm, 2}, {"a??", api.ErrForm, 2}, {"a?*", api.ErrForm, 2}, {"a++", api.ErrForm, 2},
		{"(a)**", api.ErrForm, 4}, {"[a]*?", api.ErrForm, 4}, {`\**+`, api.ErrForm, 3}, {"^**", api.ErrForm, 2},
		// A ) too many.
		{")", api.ErrForm, 0}, {"a)", api.ErrForm, 1}, {"(a))", api.ErrForm, 3}, {"()())", api.ErrForm, 4}, {"a|)", api.ErrForm, 2},
		// A range that may not be.
		{"[b-a]", api.ErrForm, 2}, {"[xb-ay]", api.ErrForm, 3}, {"[^b-a]", api.ErrForm, 3}, {"q[a-cz-y]", api.ErrForm, 6}, {"[a--]", api.ErrForm, 2}, {"[]-A]", api.ErrForm, 2}, {"[\xff-\x00]", api.ErrForm, 2},
		// Something that is missing at the end.
		{"(", api.ErrEnd, 1}, {"(a", api.ErrEnd, 2}, {"((a)", api.ErrEnd, 4}, {"(a|", api.ErrEnd, 3}, {`(\)`, api.ErrEnd, 3}, {"([)]", api.ErrEnd, 4},
		{"[", api.ErrEnd, 1}, {"[]", api.ErrEnd, 2}, {"[^", api.ErrEnd, 2}, {"[^]", api.ErrEnd, 3}, {"[a", api.ErrEnd, 2}, {"[a-", api.ErrEnd, 3}, {"[a-b", api.ErrEnd, 4}, {"a[b", api.ErrEnd, 3}, {"[[", api.ErrEnd, 2}, {"([)", api.ErrEnd, 3}, {"[*", api.ErrEnd, 2},
		{`\`, api.ErrEnd, 1}, {`a\`, api.ErrEnd, 2}, {`\\\`, api.ErrEnd, 3}, {`(\`, api.ErrEnd, 2}, {`[\`, api.ErrEnd, 2}, {`[a\`, api.ErrEnd, 3},
		// Of several faults the first one.
		{"*)", api.ErrForm, 0}, {")*", api.ErrForm, 0}, {"(*", api.ErrForm, 1}, {"[b-a", api.ErrForm, 2}, {"(a**", api.ErrForm, 3}, {"a))*", api.ErrForm, 1}, {"[b-a]*)", api.ErrForm, 2}, {"(a)*)[", api.ErrForm, 4}, {`**\`, api.ErrForm, 0},
	} {
		r, fault := Compile(c.text)
		if want := (api.Fault{Why: c.why, At: c.at}); r != nil || fault != want {
			t.Errorf("Compile(%q) = %v, %v; want %v", c.text, r, fault, want)
		}
	}
}

// P5.1: how long an expression may be, and how deep.
func TestCompileLimits(t *testing.T) {
	for _, s := range []string{
		strings.Repeat("a", 200), strings.Repeat("(", 16) + strings.Repeat(")", 16), strings.Repeat("()", 100),
		strings.Repeat("(", 16) + ")(" + strings.Repeat(")", 16),
		strings.Repeat("(", 16) + `\([(]` + strings.Repeat(")", 16),
		strings.Repeat("|", 200), strings.Repeat("a*", 100),
	} {
		compiled(t, s)
	}
	for _, c := range []struct {
		text string
		why  api.Errno
		at   int
	}{
		{strings.Repeat("a", 201), api.ErrMany, 0},
		{strings.Repeat("a", 1<<16), api.ErrMany, 0},
		{"*" + strings.Repeat("a", 200), api.ErrMany, 0},
		{strings.Repeat("a", 200) + `\`, api.ErrMany, 0},
		{strings.Repeat("a", 199) + `\`, api.ErrEnd, 200},
		{strings.Repeat("a", 198) + "**", api.ErrForm, 199},
		{strings.Repeat("(", 17) + strings.Repeat(")", 17), api.ErrMany, 16},
		{strings.Repeat("(", 200), api.ErrMany, 16},
		{strings.Repeat("a(", 17), api.ErrMany, 33},
		{strings.Repeat("()", 50) + strings.Repeat("(", 17), api.ErrMany, 116},
		{strings.Repeat("(", 15) + "()(" + "(", api.ErrMany, 18},
		{strings.Repeat("(", 16), api.ErrEnd, 16},
		{strings.Repeat("(", 16) + "*(", api.ErrForm, 16},
		{strings.Repeat("(", 17) + "*", api.ErrMany, 16},
	} {
		r, fault := Compile(c.text)
		if want := (api.Fault{Why: c.why, At: c.at}); r != nil || fault != want {
			t.Errorf("Compile of %d bytes, %.40q = %v, %v; want %v", len(c.text), c.text, r, fault, want)
		}
	}
}

type findCase struct {
	expr, s    string
	from       int
	begin, end int
	ok         bool
}

func (c findCase) check(t *testing.T) {
	t.Helper()
	begin, end, ok := compiled(t, c.expr).Find(c.s, c.from)
	if begin != c.begin || end != c.end || ok != c.ok {
		t.Errorf("%q in %q from %d: %d, %d, %v; want %d, %d, %v", c.expr, c.s, c.from, begin, end, ok, c.begin, c.end, c.ok)
	}
}

// P5.2: where the match is.
func TestFind(t *testing.T) {
	for _, c := range []findCase{
		{"a|ab", "xab", 0, 1, 3, true}, {"ab|a", "xab", 0, 1, 3, true}, {"a|ab|abc", "abcd", 0, 0, 3, true},
		{"(a|ab)(c|bcd)", "abcd", 0, 0, 4, true}, {"b", "abab", 0, 1, 2, true}, {"b", "abab", 2, 3, 4, true}, {"c", "abab", 0, 0, 0, false},
		{"a*", "aaab", 0, 0, 3, true}, {"a*", "baaa", 0, 0, 0, true}, {"a*", "baaa", 1, 1, 4, true}, {"a*", "baaa", 2, 2, 4, true},
		{"a+", "baaab", 0, 1, 4, true}, {"a+", "b", 0, 0, 0, false}, {"a?", "aa", 0, 0, 1, true}, {"a?", "ba", 0, 0, 0, true}, {"ba?", "cba", 0, 1, 3, true}, {"ba?", "cbb", 0, 1, 2, true},
		{"a.c", "abc a\nc", 0, 0, 3, true}, {"a.c", "abc a\nc", 1, 4, 7, true}, {"a.c", "ac", 0, 0, 0, false},
		{"a.*c", "xacbcb", 0, 1, 5, true}, {"(ab)*", "ababa", 0, 0, 4, true}, {"(ab)+", "aababa", 0, 1, 5, true}, {"(ab)?c", "abc", 0, 0, 3, true},
		{"a|", "ba", 0, 0, 0, true}, {"|a", "ab", 0, 0, 1, true}, {"a||b", "b", 0, 0, 1, true}, {"x(|a)y", "xy", 0, 0, 2, true}, {"x()y", "axy", 0, 1, 3, true},
		// A bar parts all that stands on its two sides.
		{"ab|cd", "acd", 0, 1, 3, true}, {"ab|cd", "abd", 0, 0, 2, true}, {"ab*", "abab", 0, 0, 2, true}, {"a|b*", "bb", 0, 0, 2, true},
		// What cannot go on is given up, though it began earlier.
		{"abc|b", "abd", 0, 1, 2, true}, {"a.*d|b", "abc", 0, 1, 2, true},
		// Bytes of any value.
		{"\xff+", "a\xff\xff", 0, 1, 3, true}, {".", "\x80", 0, 0, 1, true}, {"é", "é", 0, 0, 2, true}, {"é?", "\xc3", 0, 0, 1, true}, {"\x00", "a\x00", 0, 1, 2, true},
	} {
		c.check(t)
	}
}

// P5.2: from where the match may begin.
func TestFindFrom(t *testing.T) {
	for _, c := range []findCase{
		{"a", "aaa", -1, 0, 0, false}, {"", "aaa", -1, 0, 0, false}, {"a", "aaa", -1 << 63, 0, 0, false},
		{"a", "aaa", 0, 0, 1, true}, {"a", "aaa", 2, 2, 3, true}, {"a", "aaa", 3, 0, 0, false},
		{"", "aaa", 0, 0, 0, true}, {"", "aaa", 2, 2, 2, true}, {"", "aaa", 3, 3, 3, true}, {"", "aaa", 4, 0, 0, false}, {"", "aaa", 1<<63 - 1, 0, 0, false},
		{"", "", 0, 0, 0, true}, {"", "", 1, 0, 0, false}, {"", "", -1, 0, 0, false}, {"a", "", 0, 0, 0, false},
		{"b*", "aab", 3, 3, 3, true}, {"b*", "aab", 2, 2, 3, true}, {"b*", "aab", 1, 1, 1, true},
	} {
		c.check(t)
	}
}

// P5.2: the text's beginning and end.
func TestFindBeginningAndEnd(t *testing.T) {
	for _, c := range []findCase{
		{"^a", "aa", 0, 0, 1, true}, {"^a", "aa", 1, 0, 0, false}, {"^a", "ba", 0, 0, 0, false}, {"^", "ab", 0, 0, 0, true}, {"^", "ab", 1, 0, 0, false}, {"^", "", 0, 0, 0, true},
		{"a$", "aa", 0, 1, 2, true}, {"a$", "ab", 0, 0, 0, false}, {"$", "ab", 0, 2, 2, true}, {"$", "ab", 2, 2, 2, true}, {"$", "ab", 3, 0, 0, false}, {"$", "", 0, 0, 0, true}, {"a$", "a\n", 0, 0, 0, false}, {"^b", "a\nb", 0, 0, 0, false},
		{"^$", "", 0, 0, 0, true}, {"^$", "a", 0, 0, 0, false}, {"$^", "", 0, 0, 0, true}, {"^a*$", "aaa", 0, 0, 3, true}, {"^a*$", "aab", 0, 0, 0, false},
		{"a^b", "a^b", 0, 0, 0, false}, {"a$b", "a$b", 0, 0, 0, false}, {"a^b|c", "a^bc", 0, 3, 4, true}, {"a*^b", "b", 0, 0, 1, true}, {"a*^b", "ab", 0, 0, 0, false}, {"b$a*", "ab", 0, 1, 2, true}, {"^^a$$", "a", 0, 0, 1, true},
		{"a^*b", "xab", 0, 1, 3, true}, {"^*a", "ba", 0, 1, 2, true}, {"^+a", "ba", 0, 0, 0, false}, {"^+a", "a", 0, 0, 1, true}, {"^?a", "ba", 0, 1, 2, true}, {"a$*b", "ab", 0, 0, 2, true}, {"a$+", "aa", 0, 1, 2, true}, {"a$?", "aa", 0, 0, 1, true},
		{"(^|x)a", "axa", 1, 1, 3, true}, {"(^|x)a", "axa", 0, 0, 1, true}, {"a(x|$)", "axa", 1, 2, 3, true}, {"(^a|b)*", "aab", 0, 0, 1, true}, {"(^a|b)*", "abb", 0, 0, 3, true},
		{`\^a`, "b^a", 0, 1, 3, true}, {`a\$`, "a$b", 0, 0, 2, true},
	} {
		c.check(t)
	}
}

// P5.2: any number of times of what may take no byte.
func TestFindEmptyRepeats(t *testing.T) {
	for _, expr := range []string{"(a*)*", "(a*)+", "(a+)*", "(a?)*", "(a*)?", "(|a)*", "(a|)+", "((a*)*)*", "((a?)+|)*", "(^*a*$*)*", "(()a*)*"} {
		findCase{expr, "aaab", 0, 0, 3, true}.check(t)
		findCase{expr, "baa", 0, 0, 0, true}.check(t)
		findCase{expr, "baa", 1, 1, 3, true}.check(t)
		findCase{expr, "", 0, 0, 0, true}.check(t)
	}
	for _, expr := range []string{"()*", "()+", "(|)*", "((()*)*)+", "(^|$)*"} {
		findCase{expr, "ab", 1, 1, 1, true}.check(t)
		findCase{expr, "ab", 2, 2, 2, true}.check(t)
	}
	findCase{"((a*)*b)*c", "aabbabc", 0, 0, 7, true}.check(t)
	findCase{"((a*)*b)*c", "aabbabd", 0, 0, 0, false}.check(t)
}

// P5.2: which bytes a set takes.
func TestSets(t *testing.T) {
	for _, c := range []struct{ expr, in string }{
		{"[a]", "a"}, {"[abc]", "abc"}, {"[a-c]", "abc"}, {"[a-a]", "a"}, {"[a-cx-z]", "abcxyz"}, {"[a-cq]", "abcq"}, {"[qa-c]", "abcq"},
		{"[]]", "]"}, {"[]a]", "]a"}, {"[]-a]", "]^_`a"}, {"[]-]", "]-"}, {"[]-_q]", "]^_q"},
		{"[-]", "-"}, {"[-a]", "-a"}, {"[a-]", "-a"}, {"[-a-c]", "-abc"}, {"[a-c-]", "-abc"}, {"[--]", "-"}, {"[---]", "-"}, {"[--0]", "-./0"}, {"[+--]", "+,-"},
		{"[a-c-e]", "abc-e"}, {"[a-ce-g]", "abcefg"},
		{"[a^]", "a^"}, {"[.]", "."}, {"[$]", "$"}, {"[*+?|()]", "*+?|()"}, {"[[]", "["}, {`[\]`, `\`}, {`[\n]`, `\n`}, {`[\-^]`, `\]^`},
		{"[\x00-\x02]", "\x00\x01\x02"}, {"[\xfe-\xff]", "\xfe\xff"}, {"[?-A]", "?@A"}, {"[\x7f-\x81]", "\x7f\x80\x81"}, {"[é]", "\xc3\xa9"},
		{".", everyByte()}, {"[\x00-\xff]", everyByte()}, {"a", "a"}, {`\.`, "."}, {`\n`, "n"}, {`\]`, "]"}, {"]", "]"}, {"-", "-"}, {"(a|[c-d])", "acd"},
	} {
		checkSet(t, c.expr, c.in, false)
		if strings.HasPrefix(c.expr, "[") {
			checkSet(t, "[^"+c.expr[1:], c.in, true)
		}
	}
	checkSet(t, "[^^]", "^", true)
	checkSet(t, "[^]-a]", "]^_`a", true)
}

func checkSet(t *testing.T, expr, in string, not bool) {
	t.Helper()
	r := compiled(t, expr)
	for c := range 256 {
		one := string([]byte{byte(c)})
		if want := strings.Contains(in, one) != not; r.Is(one) != want {
			t.Errorf("%q of the byte %d: %v", expr, c, !want)
		}
	}
	if r.Is("") {
		t.Errorf("%q takes no byte", expr)
	}
}

// P5.2: the ] that ends a set is the first one that may.
func TestSetEnds(t *testing.T) {
	for _, c := range []struct{ expr, s string }{
		{"[a]]", "a]"}, {"[]]]", "]]"}, {"[^]]]", "a]"}, {"[a-]b]", "-b]"}, {`[\]]`, `\]`}, {"[a][b]", "ab"}, {"[a]b]*", "ab]]"}, {"[]a]*", "a]a"},
	} {
		if !compiled(t, c.expr).Is(c.s) {
			t.Errorf("%q is not %q", c.expr, c.s)
		}
	}
}

// P5.2: whether all of a text is a match.
func TestIs(t *testing.T) {
	for _, c := range []struct {
		expr, s string
		want    bool
	}{
		{"a", "a", true}, {"a", "aa", false}, {"a", "ba", false}, {"a", "ab", false}, {"a", "", false}, {"", "", true}, {"", "a", false},
		{"a|ab", "ab", true}, {"ab|a", "a", true}, {"a*", "aaaa", true}, {"a*", "", true}, {"a*", "aab", false}, {"a*", "baa", false},
		{"b|.*", "abc", true}, {"(a|ab)(c|bcd)", "abcd", true}, {"(a|ab)(c|bcd)", "abbcd", true}, {"(a|ab)(c|bcd)", "abbc", false},
		{"^a$", "a", true}, {"a^", "a", false}, {"$a", "a", false}, {"x*", "y", false}, {"(ab|c)+", "abcab", true}, {"(ab|c)+", "abca", false},
		{"a?a?a?aaa", "aaa", true}, {"a?a?a?aaa", "aaaaaa", true}, {"a?a?a?aaa", "aaaaaaa", false},
	} {
		if got := compiled(t, c.expr).Is(c.s); got != c.want {
			t.Errorf("%q is %q: %v", c.expr, c.s, got)
		}
	}
}

// P5.3: what stands in place of matches.
func TestReplace(t *testing.T) {
	for _, c := range []struct {
		expr, s, by, one, all string
	}{
		{"b+", "abbc", "<&>", "a<bb>c", "a<bb>c"},
		{"a", "banana", "x", "bxnana", "bxnxnx"}, {"a", "banana", "", "bnana", "bnn"}, {"q", "banana", "x", "banana", "banana"}, {"a", "", "x", "", ""},
		{"a", "aaa", "&&", "aaaa", "aaaaaa"}, {"aa", "aaaaa", "x", "xaaa", "xxa"}, {"a|ab", "abab", "x", "xab", "xx"},
		{"ana", "banana", "<&>", "b<ana>na", "b<ana>na"}, {".", "abc", "[&]", "[a]bc", "[a][b][c]"},
		// Empty matches.
		{"", "ab", "-", "-ab", "-a-b-"}, {"", "", "-", "-", "-"}, {"", "ab", "&", "ab", "ab"},
		{"b*", "abc", "<&>", "<>abc", "<>a<b><>c<>"}, {"a*", "aa", "<&>", "<aa>", "<aa><>"}, {"a*", "baac", "x", "xbaac", "xbxxcx"}, {"a?", "ab", "x", "xb", "xxbx"},
		{"^", "ab", "x", "xab", "xab"}, {"$", "ab", "x", "abx", "abx"}, {"^|$", "ab", "x", "xab", "xabx"}, {"^a", "aaa", "x", "xaa", "xaa"}, {"a$", "aaa", "x", "aax", "aax"}, {"^a*", "aab", "x", "xb", "xb"}, {"a*$", "baa", "x", "bx", "bxx"},
		// What is put there.
		{"b", "abc", "&", "abc", "abc"}, {"b", "abc", "&&&", "abbbc", "abbbc"}, {"b", "abc", `\&`, "a&c", "a&c"}, {"b", "abc", `\\`, `a\c`, `a\c`}, {"b", "abc", `\\&`, `a\bc`, `a\bc`}, {"b", "abc", `\\\&`, `a\&c`, `a\&c`},
		{"b", "abc", `\`, `a\c`, `a\c`}, {"b", "abc", `x\`, `ax\c`, `ax\c`}, {"b", "abc", `&\`, `ab\c`, `ab\c`}, {"b", "abc", `\\\`, `a\\c`, `a\\c`}, {"b", "abc", `\n\1`, "an1c", "an1c"}, {"b", "abc", "\\\xff&", "a\xffbc", "a\xffbc"},
		{".", `a&\`, "&", `a&\`, `a&\`}, {".*", `a&\b`, "<&>", `<a&\b>`, `<a&\b><>`}, {"[^a]", "a\xff\x00", "(&)", "a(\xff)\x00", "a(\xff)(\x00)"},
	} {
		r := compiled(t, c.expr)
		if got := r.Replace(c.s, c.by, false); got != c.one {
			t.Errorf("the first %q in %q by %q: %q; want %q", c.expr, c.s, c.by, got, c.one)
		}
		if got := r.Replace(c.s, c.by, true); got != c.all {
			t.Errorf("all %q in %q by %q: %q; want %q", c.expr, c.s, c.by, got, c.all)
		}
	}
}

// P5.3: quoted texts.
func TestQuote(t *testing.T) {
	for c := range 256 {
		one := string([]byte{byte(c)})
		want := one
		if strings.Contains(`.^$*+?|()[]\`, one) {
			want = `\` + one
		}
		if got := Quote(one); got != want {
			t.Errorf("Quote(%q) = %q", one, got)
		}
	}
	for s, want := range map[string]string{
		"": "", "abc": "abc", "a.b*c": `a\.b\*c`, `\\`: `\\\\`, "[a-z]": `\[a-z\]`, "&{}-/,:é": "&{}-/,:é", "()|+?^$": `\(\)\|\+\?\^\$`, "\x00\xff.": "\x00\xff\\.",
	} {
		if got := Quote(s); got != want {
			t.Errorf("Quote(%q) = %q; want %q", s, got, want)
		}
	}
}

// P5.3: a Regex that is nil, or that nobody made.
func TestUnmade(t *testing.T) {
	for _, r := range []*Regex{nil, {}, new(Regex)} {
		for _, s := range []string{"", "a", "abc"} {
			for from := -1; from <= len(s)+1; from++ {
				if begin, end, ok := r.Find(s, from); begin != 0 || end != 0 || ok {
					t.Errorf("Find(%q, %d) = %d, %d, %v", s, from, begin, end, ok)
				}
			}
			if r.Is(s) {
				t.Errorf("Is(%q)", s)
			}
			for _, all := range []bool{false, true} {
				if got := r.Replace(s, "x&", all); got != s {
					t.Errorf("Replace(%q) = %q", s, got)
				}
			}
		}
		if got := r.Text(); got != "" {
			t.Errorf("Text() = %q", got)
		}
	}
}

// P5.4: a quoted text matches itself alone.
func TestQuotedMatchesItself(t *testing.T) {
	all := texts(`a*[]\.`, 3)
	all = append(all, `.^$*+?|()[]\`, everyByte()[:100], everyByte()[128:], "a-z", "^", "$", "&", "{2}")
	for _, s := range all {
		r := compiled(t, Quote(s))
		for _, other := range all {
			if r.Is(other) != (s == other) {
				t.Fatalf("%q, quoted, is %q: %v", s, other, s != other)
			}
		}
		if begin, end, ok := r.Find("xx"+s+"yy"+s, 1); s != "" && (begin != 2 || end != 2+len(s) || !ok) {
			t.Errorf("%q, quoted, in a longer text: %d, %d, %v", s, begin, end, ok)
		}
	}
}

// P5.5: ways, and things that are repeated.
func TestWaysAndRepeats(t *testing.T) {
	exprs := []string{"", "a", "b", "ab", ".", "[^a]", "a*", "b+", "a?", "(a|b)", "(ab)*", "^", "$", "^a", "b$", "a|ab", "(a*)*b", "()"}
	for _, a := range exprs {
		star, plus, maybe := compiled(t, "("+a+")*"), compiled(t, "("+a+")+"), compiled(t, "("+a+")?")
		twice, none := compiled(t, "("+a+")("+a+")*"), compiled(t, "("+a+")+|")
		only := compiled(t, a)
		for _, s := range texts("ab", 5) {
			if plus.Is(s) != twice.Is(s) {
				t.Fatalf("%q with +, and it and it with *, differ in %q", a, s)
			}
			if star.Is(s) != none.Is(s) {
				t.Fatalf("%q with *, and with + or none, differ in %q", a, s)
			}
			if maybe.Is(s) != (only.Is(s) || s == "") {
				t.Fatalf("%q with ?, and it or none, differ in %q", a, s)
			}
		}
		for _, b := range exprs {
			both, other := compiled(t, a+"|"+b), compiled(t, b)
			for _, s := range texts("ab", 4) {
				if both.Is(s) != (only.Is(s) || other.Is(s)) {
					t.Fatalf("%q or %q of %q: %v", a, b, s, both.Is(s))
				}
			}
		}
	}
}

// P5.1, P5.2, P5.3, P5.6: all short expressions, held against the model.
func TestShortExpressions(t *testing.T) {
	some := []string{"", "a", "-", "]", "ab", "ba", "aa", "a]", "-a", `\`, "^a", "aab", "bab"}
	faulty := 0
	for _, expr := range texts(`ab*?|()[]^$-\.`, 4) {
		if !checkModel(t, expr, some) {
			faulty++
		}
	}
	if faulty == 0 {
		t.Error("no fault was met")
	}
	long := 0
	for _, expr := range texts("a*|()", 6) {
		if checkModel(t, expr, []string{"", "a", "aa", "ba"}) {
			long++
		}
	}
	if long == 0 {
		t.Error("no expression was met")
	}
}

// checkModel holds what an expression answers against the model. It answers
// whether the expression may be.
func checkModel(t *testing.T, expr string, all []string) bool {
	t.Helper()
	m, want := modelOf(expr)
	r, fault := Compile(expr)
	if fault != want || (r == nil) != (fault.Why != api.OK) {
		t.Fatalf("Compile(%q) = %v, %v; want %v", expr, r, fault, want)
	}
	if r == nil {
		return false
	}
	for _, s := range all {
		for from := -1; from <= len(s)+1; from++ {
			begin, end, ok := r.Find(s, from)
			if i, k, found := m.find(s, from); begin != i || end != k || ok != found {
				t.Fatalf("%q in %q from %d: %d, %d, %v; want %d, %d, %v", expr, s, from, begin, end, ok, i, k, found)
			}
		}
		if r.Is(s) != m.is(s) {
			t.Fatalf("%q is %q: %v", expr, s, r.Is(s))
		}
		for _, by := range []string{`<&>\&\`, ""} {
			for _, every := range []bool{false, true} {
				if got, want := r.Replace(s, by, every), m.replace(s, by, every); got != want {
					t.Fatalf("Replace of %q in %q by %q, %v: %q; want %q", expr, s, by, every, got, want)
				}
			}
		}
	}
	return true
}

// made is an expression of chance, which may be.
func made(r *rand.Rand, deep int) string {
	things := []string{"a", "b", "c", ".", "[ab]", "[^a]", "[b-c]", "^", "$", `\a`, "()"}
	var b strings.Builder
	for n := r.Intn(4); n >= 0; n-- {
		switch {
		case deep > 0 && r.Intn(3) == 0:
			b.WriteString("(" + made(r, deep-1) + ")")
		case r.Intn(12) == 0:
			b.WriteString("|")
			continue
		default:
			b.WriteString(things[r.Intn(len(things))])
		}
		b.WriteString([]string{"", "", "", "*", "+", "?"}[r.Intn(6)])
	}
	if r.Intn(3) == 0 && deep > 0 {
		b.WriteString("|" + made(r, deep-1))
	}
	return b.String()
}

func chanceText(r *rand.Rand, bytes string, longest int) string {
	b := make([]byte, r.Intn(longest+1))
	for i := range b {
		b[i] = bytes[r.Intn(len(bytes))]
	}
	return string(b)
}

// P5.2, P5.3, P5.6: longer expressions, held against the model, and against
// the expressions of Go, which mean the same here.
func TestLongerExpressions(t *testing.T) {
	r := rand.New(rand.NewSource(5))
	for range 3000 {
		expr := made(r, 3)
		if len(expr) > 200 {
			continue
		}
		s := chanceText(r, "aabbc", 12)
		checkModel(t, expr, []string{s})
		theirs := regexp.MustCompile("(?s)" + strings.ReplaceAll(expr, `\a`, "a"))
		theirs.Longest()
		begin, end, ok := compiled(t, expr).Find(s, 0)
		if at := theirs.FindStringIndex(s); ok != (at != nil) || ok && (begin != at[0] || end != at[1]) {
			t.Fatalf("%q in %q: %d, %d, %v; want %v", expr, s, begin, end, ok, at)
		}
	}
}

// P5.1, P5.2: bytes of chance, of any value.
func TestAnyBytes(t *testing.T) {
	r := rand.New(rand.NewSource(6))
	some := []string{everyByte(), `ab*|()[]^$-\.`, "ab\x00\x80\xff[]-^"}
	for i := range 6000 {
		bytes := some[i%len(some)]
		checkModel(t, chanceText(r, bytes, 12), []string{chanceText(r, bytes, 6)})
	}
	for range 300 {
		checkModel(t, chanceText(r, "(a)|[b]", 210), []string{"ab"})
	}
}

// P5.6: no match begins earlier, or ends later: also in long texts, and in a
// time that does not run away.
func TestLongTexts(t *testing.T) {
	const n = 1 << 16
	s := strings.Repeat("a", n)
	findCase{"a*b", s, 0, 0, 0, false}.check(t)
	findCase{"(a*)*b|aa", s, 0, 0, 2, true}.check(t)
	findCase{"a*", s, 7, 7, n, true}.check(t)
	findCase{strings.Repeat("a?", 60) + strings.Repeat("a", 60), s, 0, 0, 120, true}.check(t)
	if got := compiled(t, "a|a*b").Replace(s, "x", true); got != strings.Repeat("x", n) {
		t.Errorf("%d bytes", len(got))
	}
	if !compiled(t, strings.Repeat("(", 16)+"a"+strings.Repeat("*)", 16)+"*").Is(s) {
		t.Error("stars in one another")
	}
}

// The steps are found when an expression is asked for first, and not again.
func TestStepsAreFoundOnce(t *testing.T) {
	r := compiled(t, "a|b")
	if r.Text(); r.steps != nil {
		t.Error("they were found too early")
	}
	r.Is("a")
	found := &r.steps[0]
	r.Find("ab", 1)
	r.Replace("ab", "x", true)
	if found != &r.steps[0] {
		t.Error("they were found again")
	}
}

// An expression may be asked by several at a time.
func TestSeveralAtATime(t *testing.T) {
	r := compiled(t, "(a|ab)(c|bcd)")
	var all sync.WaitGroup
	for range 8 {
		all.Go(func() {
			if !r.Is("abcd") || r.Is("abc d") {
				t.Error("the answer hangs on who asks")
			}
		})
	}
	all.Wait()
}
