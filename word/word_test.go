package word

import (
	"math/rand"
	"regexp"
	"slices"
	"strings"
	"testing"

	"bobstay/api"
)

// list is a text and the words that are asked for of it.
type list struct {
	s    string
	want []string
}

// pair is a text and the text that is asked for of it.
type pair struct{ s, want string }

// of is a list; of no words it is empty.
func of(s string, words ...string) list { return list{s, words} }

func checkSplit(t *testing.T, lists ...list) {
	t.Helper()
	for _, c := range lists {
		if got, e := Split(c.s); e != api.OK || !slices.Equal(got, c.want) {
			t.Errorf("Split(%q) = %q, %d, want %q", c.s, got, e, c.want)
		}
	}
}

func checkMean(t *testing.T, pairs ...pair) {
	t.Helper()
	for _, c := range pairs {
		if got, e := Mean(c.s); e != api.OK || got != c.want {
			t.Errorf("Mean(%q) = %q, %d, want %q", c.s, got, e, c.want)
		}
	}
}

// checkOpen asks that texts are open, to Split and to Mean.
func checkOpen(t *testing.T, texts ...string) {
	t.Helper()
	for _, s := range texts {
		if got, e := Split(s); e != api.ErrEnd || len(got) > 0 {
			t.Errorf("Split(%q) = %q, %d, want no words and ErrEnd", s, got, e)
		}
		if got, e := Mean(s); e != api.ErrEnd || got != "" {
			t.Errorf("Mean(%q) = %q, %d, want no text and ErrEnd", s, got, e)
		}
	}
}

func checkFields(t *testing.T, lists ...list) {
	t.Helper()
	for _, c := range lists {
		if got := Fields(c.s); !slices.Equal(got, c.want) {
			t.Errorf("Fields(%q) = %q, want %q", c.s, got, c.want)
		}
		if got := Count(c.s); got != len(c.want) {
			t.Errorf("Count(%q) = %d, want %d", c.s, got, len(c.want))
		}
	}
}

// all calls do with every text of at most so many bytes of an alphabet.
func all(alphabet string, most int, do func(string)) {
	var grow func(string)
	grow = func(s string) {
		do(s)
		if len(s) == most {
			return
		}
		for i := range len(alphabet) {
			grow(s + alphabet[i:i+1])
		}
	}
	grow("")
}

// every calls do with all short texts, and with many longer ones of all bytes.
func every(do func(string)) {
	all(`a '"\`, 6, do)
	all("\t '\"\\", 6, do)
	all("a\x00\xff\n '\"\\", 4, do)
	r := rand.New(rand.NewSource(4))
	for range 3000 {
		b := make([]byte, r.Intn(60))
		for i := range b {
			b[i] = byte(r.Intn(256))
			if r.Intn(2) == 0 {
				b[i] = "a \t'\"\\"[r.Intn(6)]
			}
		}
		do(string(b))
	}
}

// P4.1: ordinary texts, and the chapter's own.
func TestSplitOrdinary(t *testing.T) {
	checkSplit(t,
		of(`a 'b c'\ d`, `a`, `'b c'\ d`),
		of(`cc -o x x.c`, `cc`, `-o`, `x`, `x.c`),
		of(`echo "a b" c`, `echo`, `"a b"`, `c`),
		of(`a`, `a`),
		of("a\nb\rc\vd\fe\x00f\xa0g\u00a0h", "a\nb\rc\vd\fe\x00f\xa0g\u00a0h"),
		of("ä ö\xff \x80", "ä", "ö\xff", "\x80"),
	)
}

// P4.1: without anything between blanks there is no word.
func TestSplitBlanks(t *testing.T) {
	checkSplit(t,
		of(""), of(" "), of("\t"), of("  "), of(" \t \t\t "),
		of(" a", "a"), of("\ta", "a"), of(" \t a", "a"),
		of("a ", "a"), of("a\t", "a"), of("a\t \t", "a"),
		of("a b", "a", "b"), of("a\tb", "a", "b"), of("a \t\t  b", "a", "b"),
		of("\t a\t b \tc ", "a", "b", "c"),
	)
}

// P4.1: a blank in quotes, or behind a `\`, parts nothing.
func TestSplitHeldBlanks(t *testing.T) {
	checkSplit(t,
		of(`'a b' c`, `'a b'`, `c`),
		of("'a\tb'\tc", "'a\tb'", "c"),
		of(`"a b" c`, `"a b"`, `c`),
		of("\"a\tb\"\tc", "\"a\tb\"", "c"),
		of(`a\ b c`, `a\ b`, `c`),
		of("a\\\tb\tc", "a\\\tb", "c"),
		of(`\  a`, `\ `, `a`),
		of(`a \ `, `a`, `\ `),
		of(`\ \ `, `\ \ `),
		of("' ' \" \"\t'\t'", "' '", `" "`, "'\t'"),
		of(`"a\ b" c`, `"a\ b"`, `c`),
	)
}

// P4.1: a quote of the one kind is nothing special in the other.
func TestSplitQuotesInQuotes(t *testing.T) {
	checkSplit(t,
		of(`"it's a" b`, `"it's a"`, `b`),
		of(`'a "b' c`, `'a "b'`, `c`),
		of(`"'" '"' x`, `"'"`, `'"'`, `x`),
		of(`"' '" a`, `"' '"`, `a`),
		of(`'" "' a`, `'" "'`, `a`),
	)
}

// P4.1: a `\` takes in `"` and outside of quotes, and in `'` nothing.
func TestSplitBackslash(t *testing.T) {
	checkSplit(t,
		of(`\' \' a`, `\'`, `\'`, `a`),
		of(`\" \" a`, `\"`, `\"`, `a`),
		of(`\\ a`, `\\`, `a`),
		of(`\\\ a`, `\\\ a`),
		of(`"a\" b" c`, `"a\" b"`, `c`),
		of(`"a\\" b`, `"a\\"`, `b`),
		of(`"a\' b" c`, `"a\' b"`, `c`),
		of(`'a\' b`, `'a\'`, `b`),
		of(`'\\\' b`, `'\\\'`, `b`),
		of(`'\ ' b`, `'\ '`, `b`),
		of(`'\"' b`, `'\"'`, `b`),
	)
}

// P4.1: empty quotes are a word, and quotes may stand anywhere in one.
func TestSplitQuotesAgainstQuotes(t *testing.T) {
	checkSplit(t,
		of(`''`, `''`), of(`""`, `""`), of(`'' ""`, `''`, `""`), of(`''""`, `''""`),
		of(` '' `, `''`), of(`a''b`, `a''b`), of(`'a''b' c`, `'a''b'`, `c`),
		of(`'a b'"c d"e\ f g`, `'a b'"c d"e\ f`, `g`),
		of(`"a"'b' 'c'"d"`, `"a"'b'`, `'c'"d"`),
		of(`-D'x y'=" z" a`, `-D'x y'=" z"`, `a`),
		of(`'it'\''s a' b`, `'it'\''s a'`, `b`),
	)
}

// P4.1: quotes that do not end, and a `\` without a byte to take.
func TestOpen(t *testing.T) {
	checkOpen(t,
		`'`, `"`, `\`, ` '`, ` "`, ` \`, `a '`, `a "`, `a \`,
		`'a`, `"a`, `a\`, `'a b`, `"a b`, `a b\`, `'' '`, `"" "`, `'a''`, `"a""`,
		`'"`, `"'`, `'a"`, `"a'`, `'a"b"`, `"a'b'`,
		`\\\`, `a\\\`, `"\"`, `"a\"`, `"a\\\"`, `"\`, `"a\`, `'\`, `'a\`, `'\\`, `"\\`,
		`\''`, `\""`, `'\''`,
		"a 'b\n", `a b c "d e`,
	)
	checkSplit(t, of(`\\`, `\\`), of(`'\'`, `'\'`), of(`"\\"`, `"\\"`), of(`'a\'`, `'a\'`))
}

// P4.1: MaxWords words are not too many; an open text is told of first.
func TestSplitMany(t *testing.T) {
	most := strings.Repeat("a 'b c'\t", api.MaxWords/2)
	got, e := Split(most)
	if e != api.OK || len(got) != api.MaxWords {
		t.Fatal(len(got), e)
	}
	for i, w := range got {
		if w != []string{"a", "'b c'"}[i%2] {
			t.Fatalf("word %d is %q", i, w)
		}
	}
	if got, e := Split("  " + most + "  "); e != api.OK || len(got) != api.MaxWords {
		t.Error("blanks around", len(got), e)
	}
	for _, s := range []string{most + "x", "x " + most, most + "''", most + most, most + most + " x"} {
		if got, e := Split(s); e != api.ErrMany || len(got) > 0 {
			t.Errorf("%d words: %d words, %d", Count(s), len(got), e)
		}
	}
	checkOpen(t, most+"'", most+"x '", most+`x "a`, most+most+`\`, most+most+"x 'y z")
	long := "'" + strings.Repeat("a ", api.MaxWords+1) + "'"
	if got, e := Split(long); e != api.OK || !slices.Equal(got, []string{long}) {
		t.Error("many blanks in quotes", len(got), e)
	}
}

// P4.1: what a word means, of all kinds of quotes.
func TestMean(t *testing.T) {
	checkMean(t,
		pair{`'b c'\ d`, `b c d`},
		pair{``, ``}, pair{`a`, `a`}, pair{`''`, ``}, pair{`""`, ``}, pair{`''""`, ``},
		pair{`a''b`, `ab`}, pair{`'a'"b"c`, `abc`},
		pair{`"it's"`, `it's`}, pair{`'a "b"'`, `a "b"`},
		pair{`\'\"\\\a\ `, `'"\a `},
		pair{`"\'\"\\\a\ "`, `'"\a `},
		pair{`'\"\\\a\ '`, `\"\\\a\ `},
		pair{`'\'`, `\`}, pair{`'it'\''s'`, `it's`},
		pair{`a\nb`, `anb`}, pair{`"a\nb"`, `anb`}, pair{`'a\nb'`, `a\nb`},
		pair{"'\x00\xff'\\\xfe\"\\\x80\"", "\x00\xff\xfe\x80"},
		pair{`\ä`, `ä`},
	)
}

// P4.1: blanks stay, wherever they stand, and many words are not too many.
func TestMeanBlanks(t *testing.T) {
	checkMean(t,
		pair{` `, ` `}, pair{"\t", "\t"}, pair{" \t ", " \t "},
		pair{` a  b `, ` a  b `}, pair{"a\t'b'\t\tc\\ ", "a\tb\t\tc "},
		pair{`'a b' "c d"`, `a b c d`},
	)
	many := strings.Repeat("a ", api.MaxWords+1)
	checkMean(t, pair{many, many})
}

// P4.2: an empty text, and ones that need no quotes.
func TestQuotePlain(t *testing.T) {
	if got := Quote(""); got != "''" {
		t.Errorf("Quote of an empty text is %q", got)
	}
	for _, s := range []string{
		"a", "main.c", "../src/a-b_c+d.o", "A=1,2:3@x%y", "_./+-,:=@%",
		"abcdefghijklmnopqrstuvwxyz", "ABCDEFGHIJKLMNOPQRSTUVWXYZ", "0123456789",
	} {
		if got := Quote(s); got != s {
			t.Errorf("Quote(%q) = %q", s, got)
		}
	}
}

// P4.2: each byte by itself, and among others.
func TestQuoteEachByte(t *testing.T) {
	const stay = "abcdefghijklmnopqrstuvwxyzABCDEFGHIJKLMNOPQRSTUVWXYZ0123456789_./+-,:=@%"
	for c := range 256 {
		for _, s := range []string{
			string([]byte{byte(c)}),
			string([]byte{'a', byte(c)}),
			string([]byte{byte(c), 'a'}),
			string([]byte{'.', byte(c), '%'}),
		} {
			want := "'" + s + "'"
			if c == '\'' {
				want = "'" + strings.Replace(s, "'", `'\''`, 1) + "'"
			} else if strings.IndexByte(stay, byte(c)) >= 0 {
				want = s
			}
			if got := Quote(s); got != want {
				t.Errorf("Quote(%q) = %q, want %q", s, got, want)
			}
		}
	}
}

// P4.2: what needs quotes stands in `'`, each `'` in it by itself outside of them.
func TestQuoteQuoted(t *testing.T) {
	for _, c := range []pair{
		{"a b", "'a b'"}, {" ", "' '"}, {"\t", "'\t'"}, {"\n", "'\n'"},
		{`a\b`, `'a\b'`}, {`\`, `'\'`}, {`"`, `'"'`}, {`"a"`, `'"a"'`},
		{`'`, `''\'''`}, {`''`, `''\'''\'''`}, {`it's`, `'it'\''s'`}, {`'a b'`, `''\''a b'\'''`},
		{`a'b'c`, `'a'\''b'\''c'`}, {`\'`, `'\'\'''`},
		{"$x", "'$x'"}, {"a*", "'a*'"}, {"ä", "'ä'"}, {"\xff", "'\xff'"},
	} {
		if got := Quote(c.s); got != c.want {
			t.Errorf("Quote(%q) = %q, want %q", c.s, got, c.want)
		}
	}
}

// P4.3: fields are parted by all blanks, also by those in quotes.
func TestFields(t *testing.T) {
	checkFields(t,
		of(""), of(" "), of("\t"), of(" \t\t "),
		of("a", "a"), of("a b\tc", "a", "b", "c"), of(" \ta \t b\t ", "a", "b"),
		of(`a 'b c'\ d`, `a`, `'b`, `c'\`, `d`),
		of(`"a b" c`, `"a`, `b"`, `c`),
		of(`a\ b`, `a\`, `b`), of("a\\\tb", "a\\", "b"),
		of(`'`, `'`), of(`"`, `"`), of(`\`, `\`), of(`'a "b \`, `'a`, `"b`, `\`),
		of(`' '`, `'`, `'`), of(`\  \`, `\`, `\`), of(`''`, `''`),
		of("a\nb\rc\vd\fe\x00f\xa0g\u00a0h\u2003i", "a\nb\rc\vd\fe\x00f\xa0g\u00a0h\u2003i"),
		of("\xff \x80\t\xc3", "\xff", "\x80", "\xc3"),
	)
}

// P4.3: there may be any number of fields.
func TestFieldsMany(t *testing.T) {
	many := strings.Repeat("a ", 3*api.MaxWords)
	if got := Fields(many); len(got) != 3*api.MaxWords || got[3*api.MaxWords-1] != "a" {
		t.Error(len(got))
	}
	if got := Count(many); got != 3*api.MaxWords {
		t.Error(got)
	}
}

// P4.3: empty words go, all others stay as they are.
func TestJoin(t *testing.T) {
	for _, c := range []struct {
		words []string
		want  string
	}{
		{nil, ""}, {[]string{}, ""}, {[]string{""}, ""}, {[]string{"", "", ""}, ""},
		{[]string{"a"}, "a"}, {[]string{"a", "b", "c"}, "a b c"},
		{[]string{"", "a"}, "a"}, {[]string{"a", ""}, "a"}, {[]string{"", "a", "", "", "b", ""}, "a b"},
		{[]string{"a", "a", "a"}, "a a a"},
		{[]string{" "}, " "}, {[]string{" ", "\t"}, "  \t"}, {[]string{" a ", "", "b c\t"}, " a  b c\t"},
		{[]string{"''", "'a b'", `\`, "'"}, `'' 'a b' \ '`},
		{[]string{"\x00", "\xff", "\n"}, "\x00 \xff \n"},
	} {
		if got := Join(c.words...); got != c.want {
			t.Errorf("Join(%q) = %q, want %q", c.words, got, c.want)
		}
	}
}

// R4: Join leaves the list that it is handed as it is.
func TestJoinLeavesTheList(t *testing.T) {
	words := []string{"", "a", "", "b", "c"}
	before := slices.Clone(words)
	if got := Join(words...); got != "a b c" || !slices.Equal(words, before) {
		t.Errorf("%q of %q", got, words)
	}
}

// P4.4: a quoted text is one word, and means the text.
func TestQuotedIsOneWord(t *testing.T) {
	every(func(s string) {
		q := Quote(s)
		if got, e := Split(q); e != api.OK || len(got) != 1 || got[0] != q {
			t.Fatalf("Split(%q) = %q, %d", q, got, e)
		}
		if got, e := Mean(q); e != api.OK || got != s {
			t.Fatalf("Mean(%q) = %q, %d, want %q", q, got, e, s)
		}
	})
}

// P4.5: the words, joined, have the same words.
func TestJoinedWords(t *testing.T) {
	every(func(s string) {
		words, e := Split(s)
		if e != api.OK {
			return
		}
		if slices.Contains(words, "") {
			t.Fatalf("Split(%q) = %q: an empty word", s, words)
		}
		if again, e := Split(Join(words...)); e != api.OK || !slices.Equal(again, words) {
			t.Fatalf("the words of %q are %q, joined %q, %d", s, words, again, e)
		}
	})
}

// P4.6: fields of joined fields are they.
func TestJoinedFields(t *testing.T) {
	every(func(s string) {
		words := Fields(s)
		joined := Join(words...)
		if again := Fields(joined); !slices.Equal(again, words) {
			t.Fatalf("the fields of %q are %q, joined %q", s, words, again)
		}
		if Count(s) != len(words) || Count(joined) != len(words) {
			t.Fatalf("%q has %d fields, counted %d, joined %d", s, len(words), Count(s), Count(joined))
		}
	})
}

// The chapter's words, told once more as expressions: a unit is a byte that
// is nothing special, a `\` with what it takes, or quotes.
const unit = `(?:[^ \t'"\\]|\\[\s\S]|'[^']*'|"(?:[^"\\]|\\[\s\S])*")`

// P4.1: words and meanings are those that the expressions find.
func TestAgainstExpressions(t *testing.T) {
	whole := regexp.MustCompile(`\A(?:[ \t]|` + unit + `)*\z`)
	run := regexp.MustCompile(unit + `+`)
	piece := regexp.MustCompile(`[ \t]|` + unit)
	taken := regexp.MustCompile(`\\([\s\S])`)
	every(func(s string) {
		words, why := Split(s)
		text, because := Mean(s)
		if !whole.MatchString(s) {
			if why != api.ErrEnd || because != api.ErrEnd || len(words) > 0 || text != "" {
				t.Fatalf("%q is open: Split %q, %d, Mean %q, %d", s, words, why, text, because)
			}
			return
		}
		if want := run.FindAllString(s, -1); why != api.OK || !slices.Equal(words, want) {
			t.Fatalf("Split(%q) = %q, %d, want %q", s, words, why, want)
		}
		want := piece.ReplaceAllStringFunc(s, func(p string) string {
			switch p[0] {
			case '\'':
				return p[1 : len(p)-1]
			case '"':
				p = p[1 : len(p)-1]
			}
			return taken.ReplaceAllString(p, "$1")
		})
		if because != api.OK || text != want {
			t.Fatalf("Mean(%q) = %q, %d, want %q", s, text, because, want)
		}
	})
}
