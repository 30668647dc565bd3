package suff

import (
	"slices"
	"strconv"
	"strings"
	"testing"
)

// checkNext holds what a name can be made of at once to words.
func checkNext(t *testing.T, x Table, name, want string) {
	t.Helper()
	if got := strings.Join(Next(x, name), " "); got != want {
		t.Errorf("Next(%s, %q) = %q, want %q", toldTable(x), name, got, want)
	}
}

// checkReach holds what a name can be made of to words.
func checkReach(t *testing.T, x Table, name, want string) {
	t.Helper()
	if got := strings.Join(Reach(x, name), " "); got != want {
		t.Errorf("Reach(%s, %q) = %q, want %q", toldTable(x), name, got, want)
	}
}

// checkChain holds a chain to words; of none there is no chain.
func checkChain(t *testing.T, x Table, name, there, want string) {
	t.Helper()
	got, ok := Chain(x, name, strings.Fields(there)...)
	if strings.Join(got, " ") != want || ok != (want != "") {
		t.Errorf("Chain(%s, %q, %q) = %q, %v, want %q", toldTable(x), name, there, got, ok, want)
	}
}

// row is a table of so many numbered suffixes, each of which is made of the one behind.
func row(n int) Table {
	x := Table{Suffixes: numbered(n)}
	for i := range n - 1 {
		x.Ways = append(x.Ways, [2]string{x.Suffixes[i+1], x.Suffixes[i]})
	}
	return x
}

// P15.2: what a name can be made of at once.
func TestNext(t *testing.T) {
	x := table(".y .c .o .s", ".y>.c .s>.o .c>.o .o>.c")
	checkNext(t, x, "x.o", "x.s x.c")
	checkNext(t, x, "x.c", "x.y x.o")
	checkNext(t, x, "x.y", "")
	checkNext(t, x, "x", "")
	checkNext(t, x, "", "")
	checkNext(t, x, "x.o.c", "x.o.y x.o.o")
	checkNext(t, x, "x.o/y", "")
	checkNext(t, x, "x.oo", "")
	checkNext(t, x, ".o", ".s .c") // the suffix alone is a name, too
	checkNext(t, x, "/d/x.o", "/d/x.s /d/x.c")
	checkNext(t, table(".c .o", ""), "x.o", "")
	checkNext(t, Table{}, "x.o", "")
}

// P15.2: each way by which a name can be made is asked, in the table's order.
func TestNextNested(t *testing.T) {
	checkNext(t, table("o .o x.o c", "c>o c>x.o c>.o o>c"), "x.o", "x.c c xc")
	checkNext(t, table("o .o c .c", "c>o .c>.o"), "x.o", "x.c x.c") // one for each way
	checkReach(t, table("o .o c .c", "c>o .c>.o"), "x.o", "x.c")
	checkReach(t, table("o .o c .c", ".c>.o c>o"), "x.o", "x.c")
}

// P15.2: all that a name can be made of, round by round.
func TestReach(t *testing.T) {
	checkReach(t, table(".y .c .o", ".y>.c .c>.o"), "x.o", "x.c x.y")
	checkReach(t, table(".y .c .o", ".c>.o .y>.c"), "x.o", "x.c x.y")
	checkReach(t, table(".y .c .o .l .s", ".l>.c .y>.c .s>.o .c>.o .c>.s"), "x.o", "x.s x.c x.l x.y")
	checkReach(t, table(".c .o", ".c>.o .o>.c"), "x.o", "x.c") // the name itself is come to already
	checkReach(t, table(".c .o", ".c>.o .o>.c"), "x.c", "x.o")
	checkReach(t, table(".c .o", ".c>.o"), "x.c", "")
	checkReach(t, table(".c .o", ".c>.o"), "", "")
	checkReach(t, table(".c .o", ".c>.o"), ".o", ".c")
	checkReach(t, table("a ab b", "a>ab ab>b"), "xb", "xab xa xaab xaa xaaab xaaa xaaaab xaaaa xaaaaab xaaaaa xaaaaaab")
	checkReach(t, table("a aa", "aa>a"), "a", "aa aaa aaaa aaaaa aaaaaa aaaaaaa")
	checkReach(t, table("a aa", "a>aa"), "aaaaaaaaa", "aaaaaaaa aaaaaaa aaaaaa aaaaa aaaa aaa")
	checkReach(t, Table{}, "x.o", "")
}

// P15.2: 7 rounds are gone through, the first of which is the name itself.
func TestReachRounds(t *testing.T) {
	x := row(9)
	checkReach(t, x, "x.1", "x.2 x.3 x.4 x.5 x.6 x.7")
	checkReach(t, x, "x.2", "x.3 x.4 x.5 x.6 x.7 x.8")
	checkReach(t, x, "x.3", "x.4 x.5 x.6 x.7 x.8 x.9")
	checkReach(t, x, "x.4", "x.5 x.6 x.7 x.8 x.9")
	checkChain(t, x, "x.1", "x.7", "x.7 x.6 x.5 x.4 x.3 x.2 x.1")
	checkChain(t, x, "x.1", "x.8", "")
	checkChain(t, x, "x.1", "x.8 x.9 x.7", "x.7 x.6 x.5 x.4 x.3 x.2 x.1")
}

// star is a table by which a name that ends with o can be made of one with so many
// bytes behind its last one, and each of those again.
func star(n int) Table {
	x := Table{Suffixes: []string{"o"}}
	for i := range n {
		s := string(rune('A'+i)) + "o"
		x.Suffixes = append(x.Suffixes, s)
		x.Ways = append(x.Ways, [2]string{s, "o"})
	}
	return x
}

// P15.2: there are at most 512 names, with the name itself.
func TestReachNames(t *testing.T) {
	for n, want := range map[int]int{1: 6, 2: 126, 3: 511, 8: 511, 50: 511} {
		l := Reach(star(n), "o")
		if len(l) != want {
			t.Errorf("%d names of %d ways", len(l), n)
		}
		if slices.Contains(l, "o") {
			t.Errorf("the name itself, of %d ways", n)
		}
	}
	// Of 22 ways there are 1 + 22 + 484 names in three rounds; 5 of the fourth come.
	l := Reach(star(22), "o")
	if got := strings.Join(l[504:], " "); got != "VUo VVo AAAo AABo AACo AADo AAEo" {
		t.Error(got)
	}
	checkChain(t, star(22), "o", "AAEo", "AAEo AAo Ao o")
	checkChain(t, star(22), "o", "AAFo", "")
	checkChain(t, star(22), "o", "AAFo BAo", "BAo Bo o")
}

// P15.3: the chain from the first name that is there.
func TestChain(t *testing.T) {
	x := table(".y .c .o .l .s", ".y>.c .l>.c .s>.o .c>.o")
	checkChain(t, x, "x.o", "x.y", "x.y x.c x.o")
	checkChain(t, x, "x.o", "x.y x.c", "x.c x.o")
	checkChain(t, x, "x.o", "x.c x.s", "x.s x.o")
	checkChain(t, x, "x.o", "x.l x.y", "x.y x.c x.o")
	checkChain(t, x, "x.o", "x.l", "x.l x.c x.o")
	checkChain(t, x, "x.c", "x.l x.s x.c", "x.l x.c")
	checkChain(t, x, "x.o", "x.l x.l x.l", "x.l x.c x.o")
	checkChain(t, x, "d/x.o", "d/x.s", "d/x.s d/x.o")
}

// P15.3: there is no chain.
func TestChainNone(t *testing.T) {
	x := table(".y .c .o", ".y>.c .c>.o .o>.c")
	checkChain(t, x, "x.o", "", "")
	checkChain(t, x, "x.o", "x.o", "")
	checkChain(t, x, "x.o", "y.c x.h x x.", "")
	checkChain(t, x, "x.y", "x.c x.o", "")
	checkChain(t, x, "x", "x.c x.o", "")
	checkChain(t, Table{}, "x.o", "x.c", "")
	if l, ok := Chain(x, "", "", ".c"); len(l) > 0 || ok {
		t.Errorf("%q, %v", l, ok)
	}
	if l, ok := Chain(table(".o a", ".o>a"), "x.oa", ""); len(l) > 0 || ok {
		t.Errorf("%q, %v", l, ok)
	}
}

// P15.3: that the name itself is there counts nothing; P15.4: it may be there.
func TestChainItself(t *testing.T) {
	x := table(".y .c .o", ".y>.c .c>.o .o>.c")
	checkChain(t, x, "x.o", "x.o x.y", "x.y x.c x.o")
	checkChain(t, x, "x.c", "x.c x.o", "x.o x.c")
}

// P15.3: of several chains to a name the one that is found first tells.
func TestChainFirst(t *testing.T) {
	checkChain(t, table(".a .b .c .d", ".a>.b .a>.c .c>.d .b>.d"), "x.d", "x.a", "x.a x.c x.d")
	checkChain(t, table(".a .b .c .d", ".a>.b .a>.c .b>.d .c>.d"), "x.d", "x.a", "x.a x.b x.d")
	checkChain(t, table(".a .b .c .d", ".a>.b .b>.d .c>.d .a>.d"), "x.d", "x.a", "x.a x.d")
	checkChain(t, table(".a .b .c .d .e", ".a>.b .b>.d .d>.e .a>.c .c>.e"), "x.e", "x.a", "x.a x.c x.e")
}

// A chain is found among many names, and of a long one.
func TestChainMany(t *testing.T) {
	var there []string
	for i := range 200000 {
		there = append(there, "x."+strconv.Itoa(i))
	}
	checkChain(t, row(64), "x.60", strings.Join(there, " "), "x.61 x.60")
	long := strings.Repeat("n", 1<<20)
	if l, ok := Chain(row(7), long+".1", long+".7"); len(l) != 7 || !ok || l[0] != long+".7" {
		t.Error(len(l), ok)
	}
}

// R4: what is answered is the caller's, and nothing that was handed in is turned.
func TestChainOwn(t *testing.T) {
	x := table(".y .c .o", ".y>.c .c>.o")
	there := []string{"x.y", "x.o"}
	l, _ := Chain(x, "x.o", there...)
	l[0], l[1], l[2] = "1", "2", "3"
	Reach(x, "x.o")[0] = "1"
	Next(x, "x.o")[0] = "1"
	checkChain(t, x, "x.o", "x.y", "x.y x.c x.o")
	if !same(x, table(".y .c .o", ".y>.c .c>.o")) || !slices.Equal(there, []string{"x.y", "x.o"}) {
		t.Error(toldTable(x), there)
	}
}
