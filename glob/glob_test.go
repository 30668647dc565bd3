package glob

import (
	"slices"
	"strings"
	"testing"
)

// sample is a pattern with texts that it is all of, and texts that it is not.
type sample struct {
	pattern string
	yes, no []string
}

func check(t *testing.T, samples ...sample) {
	t.Helper()
	for _, c := range samples {
		for _, s := range c.yes {
			if !Match(c.pattern, s) {
				t.Errorf("Match(%q, %q) = false", c.pattern, s)
			}
		}
		for _, s := range c.no {
			if Match(c.pattern, s) {
				t.Errorf("Match(%q, %q) = true", c.pattern, s)
			}
		}
	}
}

// P1.1: bytes that are themselves, and all of the text.
func TestMatchPlainBytes(t *testing.T) {
	check(t,
		sample{"", []string{""}, []string{"a", "*", "\x00"}},
		sample{"abc", []string{"abc"}, []string{"", "ab", "abcd", "xabc", "ABC"}},
		sample{"]", []string{"]"}, []string{"", "[]"}},
		sample{"a-b!^", []string{"a-b!^"}, []string{"b"}},
		sample{"a/b c\n\x00\xff", []string{"a/b c\n\x00\xff"}, []string{"a/b c\n\x00\xfe"}},
	)
}

// P1.1: `*` is any bytes, also none; `?` any one byte.
func TestMatchWild(t *testing.T) {
	check(t,
		sample{"*", []string{"", "a", ".a/b\n\x00\xff", "*"}, nil},
		sample{"**", []string{"", "a", "ab"}, nil},
		sample{"a*", []string{"a", "ab", "a*"}, []string{"", "ba"}},
		sample{"*a", []string{"a", "ba", "aa", "aba"}, []string{"", "ab"}},
		sample{"a*b", []string{"ab", "axb", "abb", "abab"}, []string{"a", "b", "aba", "ba"}},
		sample{"*a*b*", []string{"ab", "xaxbx", "aab"}, []string{"", "ba", "a", "b"}},
		sample{"*ab*ac", []string{"abac", "aabaac", "abacac"}, []string{"abab", "acab", "ac"}},
		sample{"?", []string{"a", "?", "\x00", "\xff", "/"}, []string{"", "ab", "é"}},
		sample{"??", []string{"ab", "é"}, []string{"a", "abc"}},
		sample{"?*", []string{"a", "ab"}, []string{""}},
		sample{"*?", []string{"a", "ab"}, []string{""}},
		sample{"a?c", []string{"abc", "a?c"}, []string{"ac", "abbc"}},
	)
}

// P1.1: `\` and a byte is that byte; at the end it is itself.
func TestMatchBackslash(t *testing.T) {
	check(t,
		sample{`\*`, []string{`*`}, []string{``, `a`, `\`, `\*`, `\a`}},
		sample{`\?`, []string{`?`}, []string{`a`, `\?`}},
		sample{`\[a]`, []string{`[a]`}, []string{`a`, `\a`}},
		sample{`\a`, []string{`a`}, []string{`\a`, `\`}},
		sample{`\\`, []string{`\`}, []string{``, `\\`}},
		sample{`\\*`, []string{`\`, `\a`}, []string{`*`, `a`}},
		sample{`\`, []string{`\`}, []string{``, `\\`, `a`}},
		sample{`a\`, []string{`a\`}, []string{`a`, `a\\`}},
		sample{`*\`, []string{`\`, `a\`, `\\`}, []string{``, `a`}},
		sample{`\\\`, []string{`\\`}, []string{`\`, `\\\`}},
	)
}

// P1.1: what is in a set, and what is not.
func TestMatchSet(t *testing.T) {
	check(t,
		sample{"[a-c]?.*", []string{"bx.o", "ax.", "c..o"}, []string{"dx.o", "b.o", "bxo"}},
		sample{"[abc]", []string{"a", "b", "c"}, []string{"", "d", "ab", "[abc]"}},
		sample{"[!abc]", []string{"d", "!", "\xff"}, []string{"", "a", "b", "c", "dd"}},
		sample{"[^abc]", []string{"d", "^", "!"}, []string{"", "a", "b", "c"}},
		sample{"[a!]", []string{"a", "!"}, []string{"b"}},
		sample{"[a^]", []string{"a", "^"}, []string{"b"}},
		sample{"[!!]", []string{"a", "^"}, []string{"!"}},
		sample{"[^^]", []string{"a", "!"}, []string{"^"}},
		sample{"[!^]", []string{"a", "!"}, []string{"^"}},
		sample{"[^!]", []string{"a", "^"}, []string{"!"}},
		sample{"[*?]", []string{"*", "?"}, []string{"a", ""}},
		sample{"[[]", []string{"["}, []string{"]", "[["}},
		sample{"x[[a]y", []string{"x[y", "xay"}, []string{"xy", "x[ay"}},
		sample{"[a][b]", []string{"ab"}, []string{"ba", "a", "a]"}},
		sample{"*[ab]", []string{"a", "ca", "abab"}, []string{"", "ac"}},
	)
}

// P1.1: a `\` in a set is one of its bytes, and holds back no `]`.
func TestMatchBackslashInSet(t *testing.T) {
	check(t,
		sample{`[\]`, []string{`\`}, []string{`]`, `[\]`}},
		sample{`[a\]`, []string{`a`, `\`}, []string{`]`}},
		sample{`[\]]`, []string{`\]`}, []string{`]`, `\`}},
		sample{`[\a]`, []string{`\`, `a`}, []string{`\a`}},
	)
}

// P1.1: a `]` first in a set is one of its bytes.
func TestMatchCloseFirst(t *testing.T) {
	check(t,
		sample{"[]]", []string{"]"}, []string{"", "[]]", "[", "]]"}},
		sample{"[]a]", []string{"]", "a"}, []string{"[", "a]"}},
		sample{"[!]]", []string{"a", "!", "["}, []string{"]", ""}},
		sample{"[^]a]", []string{"b", "^"}, []string{"]", "a"}},
		sample{"[]]]", []string{"]]"}, []string{"]", "]]]"}},
		sample{"[a]]", []string{"a]"}, []string{"a", "]"}},
		sample{"[]-a]", []string{"]", "^", "_", "`", "a"}, []string{"-", "b", `\`}},
	)
}

// P1.1: a `[` without a `]` is itself, and so is what stands behind it.
func TestMatchOpenAlone(t *testing.T) {
	check(t,
		sample{"[", []string{"["}, []string{"", "[["}},
		sample{"[]", []string{"[]"}, []string{"", "]", "["}},
		sample{"[!]", []string{"[!]"}, []string{"a", "!", "]"}},
		sample{"[^]", []string{"[^]"}, []string{"a", "^", "]"}},
		sample{"[!", []string{"[!"}, []string{"a", "["}},
		sample{"[^", []string{"[^"}, []string{"a", "["}},
		sample{"[a", []string{"[a"}, []string{"a", "["}},
		sample{"[a-c", []string{"[a-c"}, []string{"b", "[b"}},
		sample{"a]b[c", []string{"a]b[c"}, []string{"ab", "ac"}},
		sample{"[*", []string{"[", "[abc"}, []string{"", "a"}},
		sample{"[?", []string{"[a"}, []string{"[", "[ab"}},
		sample{`[\`, []string{`[\`}, []string{`[`, `\`}},
		sample{`[\*`, []string{`[*`}, []string{`[\`, `[a`}},
		sample{"[a]*[", []string{"a[", "axx["}, []string{"a", "ax"}},
		sample{"[[", []string{"[["}, []string{"["}},
		sample{"[![]", []string{"a", "!", "]"}, []string{"["}},
		sample{"[[]]", []string{"[]"}, []string{"[", "]"}},
	)
}

// P1.1: `a-b` in a set, and a `-` that is first or last in it.
func TestMatchRange(t *testing.T) {
	check(t,
		sample{"[b-d]", []string{"b", "c", "d"}, []string{"a", "e", "-"}},
		sample{"[b-b]", []string{"b"}, []string{"a", "c", "-"}},
		sample{"[d-b]", nil, []string{"b", "c", "d", "-", ""}},
		sample{"[!d-b]", []string{"b", "c", "d", "-"}, []string{""}},
		sample{"[!b-d]", []string{"a", "e", "-"}, []string{"b", "c", "d"}},
		sample{"[-b]", []string{"-", "b"}, []string{"a", "."}},
		sample{"[b-]", []string{"-", "b"}, []string{"a", "c"}},
		sample{"[-]", []string{"-"}, []string{"a", ""}},
		sample{"[--]", []string{"-"}, []string{"a"}},
		sample{"[!-]", []string{"a", "!"}, []string{"-"}},
		sample{"[!-b]", []string{"a", "!", "."}, []string{"-", "b"}},
		sample{"[^b-]", []string{"a", "c"}, []string{"-", "b"}},
		sample{"[--0]", []string{"-", ".", "/", "0"}, []string{",", "1"}},
		sample{"[+--]", []string{"+", ",", "-"}, []string{"*", "."}},
		sample{"[a-c-e]", []string{"a", "b", "c", "-", "e"}, []string{"d"}},
		sample{"[a-cx-z]", []string{"b", "y"}, []string{"d", "w", "-"}},
		sample{"[ac-eg]", []string{"a", "c", "d", "e", "g"}, []string{"b", "f", "-"}},
		sample{"[\x00-\xff]", []string{"\x00", "a", "\x80", "\xff"}, []string{"", "aa"}},
		sample{"[\x80-\xff]", []string{"\x80", "\xff"}, []string{"\x7f", "é"}},
	)
}

// P1.1 and R1: it ends soon where each `*` could be tried at every place.
func TestMatchManyStars(t *testing.T) {
	long := strings.Repeat("a", 3000)
	if Match(strings.Repeat("*a", 300)+"*b", long) {
		t.Error("a text without b matches *b")
	}
	if !Match(strings.Repeat("*a", 3000), long) {
		t.Error("3000 times *a does not match 3000 times a")
	}
	if Match(strings.Repeat("*a", 3001), long) {
		t.Error("3001 times *a matches 3000 times a")
	}
	open := strings.Repeat("[", 1<<16)
	if !Match(open, open) || Match("*"+open+"x", open) {
		t.Error("many [ without a ]")
	}
}

// P1.1: Plain.
func TestPlain(t *testing.T) {
	for _, s := range []string{"", "abc", "a]b", "!^-", "/. \n\x00\xff", "é"} {
		if !Plain(s) {
			t.Errorf("Plain(%q) = false", s)
		}
	}
	for _, s := range []string{"*", "?", "[", `\`, "a*", "a?b", "[a]", `a\`, "é[", "\xff*"} {
		if Plain(s) {
			t.Errorf("Plain(%q) = true", s)
		}
	}
	for c := range 256 {
		want := c != '*' && c != '?' && c != '[' && c != '\\'
		if Plain(string([]byte{byte(c)})) != want {
			t.Errorf("Plain of byte %d is not %t", c, want)
		}
	}
}

// P1.2: Quote.
func TestQuote(t *testing.T) {
	for _, c := range [][2]string{
		{"", ""},
		{"abc", "abc"},
		{"*", `\*`},
		{"?", `\?`},
		{"[", `\[`},
		{`\`, `\\`},
		{"a*b?c[d]e\\", `a\*b\?c\[d]e\\`},
		{"]!^-", "]!^-"},
		{"\x00\xff\xc3*é", "\x00\xff\xc3\\*é"},
	} {
		if got := Quote(c[0]); got != c[1] {
			t.Errorf("Quote(%q) = %q, want %q", c[0], got, c[1])
		}
	}
}

// P1.2: Filter keeps the order, and what is there twice.
func TestFilter(t *testing.T) {
	words := []string{"b.c", "a.h", "a.c", "", "b.c", "*.c"}
	for _, c := range []struct {
		pattern string
		want    []string
	}{
		{"*.c", []string{"b.c", "a.c", "b.c", "*.c"}},
		{`\*.c`, []string{"*.c"}},
		{"a.*", []string{"a.h", "a.c"}},
		{"", []string{""}},
		{"*", words},
		{"[", nil},
		{"x", nil},
	} {
		if got := Filter(c.pattern, words...); !slices.Equal(got, c.want) {
			t.Errorf("Filter(%q) = %q, want %q", c.pattern, got, c.want)
		}
	}
	if len(Filter("*")) != 0 || len(Filter("*", nil...)) != 0 || len(Filter("")) != 0 {
		t.Error("Filter of no words has words")
	}
}

// P1.2 and R4: the words that were handed in and the answer are apart.
func TestFilterSharesNothing(t *testing.T) {
	words := []string{"a", "b", "a"}
	for _, pattern := range []string{"*", "a"} {
		got := Filter(pattern, words...)
		for i := range got {
			got[i] = "x"
		}
		if !slices.Equal(words, []string{"a", "b", "a"}) {
			t.Fatalf("Filter(%q): the words have become %q", pattern, words)
		}
	}
}

// texts are all texts over some bytes of up to a length.
func texts(over string, most int) []string {
	all := []string{""}
	for begin := 0; most > 0; most-- {
		end := len(all)
		for _, s := range all[begin:end] {
			for i := range len(over) {
				all = append(all, s+over[i:i+1])
			}
		}
		begin = end
	}
	return all
}

// P1.3: a quoted text matches itself alone.
func TestQuotedMatchesItselfAlone(t *testing.T) {
	all := texts(`*?[]\!-a`, 3)
	for _, a := range all {
		q := Quote(a)
		for _, b := range all {
			if Match(q, b) != (a == b) {
				t.Fatalf("Match(Quote(%q), %q) = %t", a, b, a != b)
			}
		}
	}
	for c := range 256 {
		a := string([]byte{byte(c)})
		for d := range 256 {
			if b := string([]byte{byte(d)}); Match(Quote(a), b) != (c == d) {
				t.Fatalf("Match(Quote(%q), %q) = %t", a, b, c != d)
			}
		}
	}
}

// P1.4: `*` matches all.
func TestStarMatchesAll(t *testing.T) {
	for _, s := range texts(`*?[]\!-a`, 3) {
		if !Match("*", s) {
			t.Fatalf("* does not match %q", s)
		}
	}
	for c := range 256 {
		if !Match("*", string([]byte{byte(c), byte(c)})) {
			t.Fatalf("* does not match byte %d", c)
		}
	}
}

// P1.4: a quoted text with a pattern behind it matches that text with what the pattern matches behind it, and nothing else.
func TestQuotedAhead(t *testing.T) {
	all := texts(`*?[]\!a`, 2)
	for _, a := range all {
		for _, p := range all {
			for _, s := range all {
				if Match(Quote(a)+p, a+s) != Match(p, s) {
					t.Fatalf("quoted %q ahead of %q, on %q", a, p, s)
				}
				if !strings.HasPrefix(s, a) && Match(Quote(a)+p, s) {
					t.Fatalf("quoted %q ahead of %q matches %q", a, p, s)
				}
			}
		}
	}
}

// P1.5: a set and its `!` part all bytes in two; `^` does as `!`.
func TestSetAndNot(t *testing.T) {
	for _, m := range append(texts(`a-d]\*[`, 4)[1:], "a!", "a^", "\x00-\x7f", "\x80-\xff", "\x00-\xff") {
		if strings.Contains(m[1:], "]") {
			continue // the set would end there
		}
		for c := range 256 {
			s := string([]byte{byte(c)})
			in := Match("["+m+"]", s)
			if Match("[!"+m+"]", s) == in || Match("[^"+m+"]", s) == in {
				t.Fatalf("byte %d is in both or none of the set %q and its !", c, m)
			}
		}
	}
}

// slowly is the chapter's section Words, told anew: what stands first in the pattern, and then the rest. It tries all, and is for short texts alone.
func slowly(p, s string) bool {
	if p == "" {
		return s == ""
	}
	if p[0] == '*' {
		return slowly(p[1:], s) || s != "" && slowly(p, s[1:])
	}
	var in [256]bool
	rest := p[1:]
	switch {
	case p[0] == '?':
		for i := range in {
			in[i] = true
		}
	case p[0] == '\\' && rest != "":
		in[rest[0]], rest = true, rest[1:]
	case p[0] == '[':
		if members, not, behind, ok := cut(rest); ok {
			fill(&in, members)
			for i := range in {
				in[i] = in[i] != not
			}
			rest = behind
		} else {
			in['['] = true
		}
	default:
		in[p[0]] = true
	}
	return s != "" && in[s[0]] && slowly(rest, s[1:])
}

func cut(rest string) (members string, not bool, behind string, ok bool) {
	if rest != "" && strings.Contains("!^", rest[:1]) {
		not, rest = true, rest[1:]
	}
	for i := 1; i < len(rest); i++ {
		if rest[i] == ']' {
			return rest[:i], not, rest[i+1:], true
		}
	}
	return "", false, "", false
}

func fill(in *[256]bool, members string) {
	for members != "" {
		if len(members) >= 3 && members[1] == '-' {
			for c := int(members[0]); c <= int(members[2]); c++ {
				in[c] = true
			}
			members = members[3:]
			continue
		}
		in[members[0]] = true
		members = members[1:]
	}
}

// P1.1: all short patterns on all short texts.
func TestMatchAllShort(t *testing.T) {
	short := texts(`ab*[]\!-`, 3)
	for _, p := range texts(`ab*?[]\!-`, 4) {
		for _, s := range short {
			if got := Match(p, s); got != slowly(p, s) {
				t.Fatalf("Match(%q, %q) = %t", p, s, got)
			}
		}
	}
	few := texts(`abc-`, 2)
	for _, m := range texts(`ac-]!`, 5) {
		for _, s := range few {
			if p := "*[" + m + "]*"; Match(p, s) != slowly(p, s) {
				t.Fatalf("Match(%q, %q) = %t", p, s, !slowly(p, s))
			}
		}
	}
}
