package path

import (
	"math/rand"
	stdpath "path"
	"slices"
	"strings"
	"testing"
)

// pair is a path and what is asked for of it.
type pair struct{ p, want string }

func check(t *testing.T, name string, call func(string) string, pairs ...pair) {
	t.Helper()
	for _, c := range pairs {
		if got := call(c.p); got != c.want {
			t.Errorf("%s(%q) = %q, want %q", name, c.p, got, c.want)
		}
	}
}

// all calls do with every text of at most so many bytes of an alphabet.
func all(alphabet string, most int, do func(string)) {
	var grow func(string)
	grow = func(s string) {
		do(s)
		if len(s) == most {
			return
		}
		for i := range len(alphabet) {
			grow(s + alphabet[i:i+1])
		}
	}
	grow("")
}

// every calls do with all short paths, and with many longer ones of all bytes.
func every(do func(string)) {
	all("a./", 9, do)
	all("ab./", 6, do)
	all("a.\x00\xff/", 5, do)
	r := rand.New(rand.NewSource(2))
	for range 3000 {
		b := make([]byte, r.Intn(40))
		for i := range b {
			b[i] = byte(r.Intn(256))
			if r.Intn(2) == 0 {
				b[i] = "a./."[r.Intn(4)]
			}
		}
		do(string(b))
	}
}

// P2.1: ordinary paths, and what is clean already.
func TestCleanOrdinary(t *testing.T) {
	check(t, "Clean", Clean,
		pair{"a//./b/../c", "a/c"},
		pair{"/../x", "/x"},
		pair{"../x", "../x"},
		pair{"a", "a"},
		pair{"a/b/c", "a/b/c"},
		pair{"/a/b", "/a/b"},
		pair{"a b/c\td", "a b/c\td"},
	)
}

// P2.1: without any part the path is `.`, at the root `/`.
func TestCleanWithoutParts(t *testing.T) {
	check(t, "Clean", Clean,
		pair{"", "."}, pair{".", "."}, pair{"./", "."}, pair{"./.", "."}, pair{".//.", "."},
		pair{"a/..", "."}, pair{"a/../", "."}, pair{"a/b/../..", "."}, pair{"./a/..", "."},
		pair{"/", "/"}, pair{"//", "/"}, pair{"///", "/"}, pair{"/.", "/"}, pair{"/./", "/"},
		pair{"/..", "/"}, pair{"/../..", "/"}, pair{"/a/..", "/"}, pair{"/a/../..", "/"},
	)
}

// P2.1: empty parts and `.` go, wherever they stand.
func TestCleanEmptyAndDot(t *testing.T) {
	check(t, "Clean", Clean,
		pair{"a//b", "a/b"}, pair{"a///b", "a/b"}, pair{"a/", "a"}, pair{"a//", "a"},
		pair{"//a", "/a"}, pair{"/a/", "/a"},
		pair{"./a", "a"}, pair{"././a", "a"}, pair{"a/./b", "a/b"}, pair{"a/.", "a"},
		pair{"a/./", "a"}, pair{".//a", "a"}, pair{"/./a", "/a"},
		pair{".a", ".a"}, pair{"a.", "a."}, pair{"...", "..."}, pair{"a/.../b", "a/.../b"},
	)
}

// P2.1: each `..` goes with the part ahead of it that is none.
func TestCleanUp(t *testing.T) {
	check(t, "Clean", Clean,
		pair{"a/../b", "b"}, pair{"a/b/../c", "a/c"}, pair{"a/b/..", "a"}, pair{"a/b/../", "a"},
		pair{"a/b/../../c", "c"}, pair{"a/./../b", "b"}, pair{"a//../b", "b"},
		pair{"..", ".."}, pair{"../", ".."}, pair{"../..", "../.."}, pair{"../../a", "../../a"},
		pair{"a/../..", ".."}, pair{"a/../../b", "../b"}, pair{"../a/..", ".."},
		pair{"../a/../..", "../.."}, pair{"a/b/../../../../c", "../../c"}, pair{"./..", ".."},
		pair{"../.", ".."}, pair{"..//../a", "../../a"},
		pair{"/../../a", "/a"}, pair{"/a/../../b", "/b"}, pair{"/a/b/../..", "/"}, pair{"//..//a", "/a"},
		pair{"..a/b", "..a/b"}, pair{"a../b", "a../b"}, pair{"a/..b", "a/..b"}, pair{".../..", "."},
	)
}

// P2.1: bytes of any value are themselves.
func TestCleanAnyBytes(t *testing.T) {
	for c := range 256 {
		if c == '.' || c == '/' {
			continue
		}
		s := string([]byte{byte(c)})
		check(t, "Clean", Clean, pair{s, s}, pair{"/" + s + "//x/../" + s, "/" + s + "/" + s}, pair{s + "/..", "."}, pair{"." + s, "." + s})
	}
	check(t, "Clean", Clean, pair{`a\..\b`, `a\..\b`}, pair{"\xff\xfe/../é", "é"})
}

// steps takes out of a path's parts, one at a time and in any order that it
// finds them, what the chapter says goes.
func steps(p string) []string {
	root := strings.HasPrefix(p, "/")
	parts := strings.Split(p, "/")
	for again := true; again; {
		again = false
		for i, part := range parts {
			switch {
			case part == "" || part == "." || part == ".." && i == 0 && root:
				parts, again = slices.Delete(parts, i, i+1), true
			case part == ".." && i > 0 && parts[i-1] != "" && parts[i-1] != "." && parts[i-1] != "..":
				parts, again = slices.Delete(parts, i-1, i+1), true
			}
			if again {
				break
			}
		}
	}
	return parts
}

// P2.1: Clean and Parts of all short paths, held against another way.
func TestCleanAndPartsEverywhere(t *testing.T) {
	every(func(p string) {
		parts := steps(p)
		want := strings.Join(parts, "/")
		if strings.HasPrefix(p, "/") {
			want = "/" + want
		} else if want == "" {
			want = "."
		}
		if got := Clean(p); got != want || got != stdpath.Clean(p) {
			t.Fatalf("Clean(%q) = %q, want %q", p, got, want)
		}
		if got := Parts(p); !slices.Equal(got, parts) {
			t.Fatalf("Parts(%q) = %q, want %q", p, got, parts)
		}
	})
}

// P2.1: the parts that are not empty, with a `/` between, clean.
func TestJoin(t *testing.T) {
	cases := []struct {
		parts []string
		want  string
	}{
		{nil, "."},
		{[]string{}, "."},
		{[]string{""}, "."},
		{[]string{"", "", ""}, "."},
		{[]string{"a"}, "a"},
		{[]string{"a", "b", "c"}, "a/b/c"},
		{[]string{"a/b", "c"}, "a/b/c"},
		{[]string{"", "a"}, "a"},
		{[]string{"a", ""}, "a"},
		{[]string{"a", "", "", "b"}, "a/b"},
		{[]string{"", "/a"}, "/a"},
		{[]string{"", "", "a", "b"}, "a/b"},
		{[]string{"/"}, "/"},
		{[]string{"/", ""}, "/"},
		{[]string{"/", "a"}, "/a"},
		{[]string{"/a", "b"}, "/a/b"},
		{[]string{"a", "/b"}, "a/b"},
		{[]string{"a/", "/b/"}, "a/b"},
		{[]string{"a", "/"}, "a"},
		{[]string{".", "a"}, "a"},
		{[]string{"a", "."}, "a"},
		{[]string{".", "."}, "."},
		{[]string{"a", ".."}, "."},
		{[]string{"a", "..", "b"}, "b"},
		{[]string{"a", "../../b"}, "../b"},
		{[]string{"..", "a"}, "../a"},
		{[]string{"..", ".."}, "../.."},
		{[]string{"/", "..", "a"}, "/a"},
		{[]string{"a ", "\x00", "\xff"}, "a /\x00/\xff"},
	}
	for _, c := range cases {
		if got := Join(c.parts...); got != c.want {
			t.Errorf("Join(%q) = %q, want %q", c.parts, got, c.want)
		}
	}
}

// P2.1: Join of all short parts, held against the library's.
func TestJoinEverywhere(t *testing.T) {
	var some []string
	all("a./", 3, func(p string) { some = append(some, p) })
	for _, a := range some {
		for _, b := range some {
			for _, c := range []string{"", "b", "..", "/", "../.."} {
				want := stdpath.Join(a, b, c)
				if want == "" {
					want = "."
				}
				if got := Join(a, b, c); got != want {
					t.Fatalf("Join(%q, %q, %q) = %q, want %q", a, b, c, got, want)
				}
			}
		}
	}
}

// R4: Join does not write into the list that it is handed.
func TestJoinLeavesItsList(t *testing.T) {
	list := []string{"", "a", "", "..", "b"}
	Join(list...)
	if !slices.Equal(list, []string{"", "a", "", "..", "b"}) {
		t.Errorf("the list is %q now", list)
	}
}

// P2.1: the parts of the path, clean; of `.` and `/` none.
func TestParts(t *testing.T) {
	cases := []struct {
		p    string
		want []string
	}{
		{"", nil}, {".", nil}, {"/", nil}, {"//", nil}, {"./.", nil}, {"a/..", nil}, {"/..", nil},
		{"a", []string{"a"}},
		{"/a", []string{"a"}},
		{"a/", []string{"a"}},
		{"a/b/c", []string{"a", "b", "c"}},
		{"/a/b", []string{"a", "b"}},
		{"a//./b/../c", []string{"a", "c"}},
		{"..", []string{".."}},
		{"../../a", []string{"..", "..", "a"}},
		{"a/../../b", []string{"..", "b"}},
		{"/../a", []string{"a"}},
		{".a/b.c/...", []string{".a", "b.c", "..."}},
		{"\x00/ \xff", []string{"\x00", " \xff"}},
	}
	for _, c := range cases {
		if got := Parts(c.p); !slices.Equal(got, c.want) {
			t.Errorf("Parts(%q) = %q, want %q", c.p, got, c.want)
		}
	}
}

// R4: what Parts answers is the caller's.
func TestPartsAreTheCallers(t *testing.T) {
	first := Parts("a/b/c")
	first[0] = "x"
	_ = append(first[:1], "y")
	if got := Parts("a/b/c"); !slices.Equal(got, []string{"a", "b", "c"}) {
		t.Errorf("Parts answers %q later", got)
	}
}

// P2.2: all ahead of the last `/`, as it stands.
func TestDir(t *testing.T) {
	check(t, "Dir", Dir,
		pair{"", "."}, pair{"a", "."}, pair{".", "."}, pair{"..", "."}, pair{"a.c", "."},
		pair{"/", "/"}, pair{"/a", "/"}, pair{"/..", "/"}, pair{"/.a", "/"},
		pair{"//", "/"}, pair{"//a", "/"}, pair{"///", "//"},
		pair{"a/b", "a"}, pair{"a/b/c", "a/b"}, pair{"/a/b", "/a"}, pair{"a/", "a"}, pair{"/a/", "/a"},
		pair{"a//b", "a/"}, pair{"./a", "."}, pair{"../a", ".."}, pair{"a/../b", "a/.."}, pair{"a/./b", "a/."},
		pair{"\xff/\x00/x", "\xff/\x00"},
	)
}

// P2.2: all behind the last `/`, as it stands.
func TestName(t *testing.T) {
	check(t, "Name", Name,
		pair{"", ""}, pair{"a", "a"}, pair{".", "."}, pair{"..", ".."}, pair{"a.c", "a.c"},
		pair{"/", ""}, pair{"//", ""}, pair{"a/", ""}, pair{"/a/", ""},
		pair{"/a", "a"}, pair{"a/b", "b"}, pair{"a/b/c.d", "c.d"}, pair{"a//b", "b"},
		pair{"a/.", "."}, pair{"a/..", ".."}, pair{"a/\x00\xff", "\x00\xff"},
	)
}

// P2.2: the name's last dot, if it is not the name's first byte, and what is behind it.
func TestSuffixAndRoot(t *testing.T) {
	cases := []struct{ p, root, suffix string }{
		{"", "", ""},
		{"a", "a", ""},
		{"/", "/", ""},
		{"a/", "a/", ""},
		{"a.c", "a", ".c"},
		{"a/b.c", "a/b", ".c"},
		{"/b.c", "/b", ".c"},
		{"a.b.c", "a.b", ".c"},
		{"a..c", "a.", ".c"},
		{"a.", "a", "."},
		{"a..", "a.", "."},
		{".", ".", ""},
		{".a", ".a", ""},
		{"x/.a", "x/.a", ""},
		{"x.y/.a", "x.y/.a", ""},
		{"/.a", "/.a", ""},
		{".a.b", ".a", ".b"},
		{"x/.a.b", "x/.a", ".b"},
		{"..", ".", "."},
		{"..a", ".", ".a"},
		{"x/..", "x/.", "."},
		{"x/.", "x/.", ""},
		{"a.b/c", "a.b/c", ""},
		{"a.b/", "a.b/", ""},
		{"a.b/c.d", "a.b/c", ".d"},
		{"a. \x00\xff", "a", ". \x00\xff"},
		{"\xff.", "\xff", "."},
	}
	for _, c := range cases {
		check(t, "Suffix", Suffix, pair{c.p, c.suffix})
		check(t, "Root", Root, pair{c.p, c.root})
	}
}

// P2.2: a suffix begins with its only dot, holds no `/`, and has a byte of the
// name ahead of it; where there is none, a dot could stand first alone.
func TestSuffixEverywhere(t *testing.T) {
	every(func(p string) {
		s, name := Suffix(p), Name(p)
		if s == "" {
			if name != "" && strings.Contains(name[1:], ".") {
				t.Fatalf("Suffix(%q) is empty", p)
			}
			return
		}
		if s[0] != '.' || strings.ContainsAny(s[1:], "./") || !strings.HasSuffix(name, s) || name == s {
			t.Fatalf("Suffix(%q) = %q", p, s)
		}
	})
}

// P2.3: parts that begin with all of the directory's, and others.
func TestBelow(t *testing.T) {
	cases := []struct {
		p, dir string
		want   bool
	}{
		{"a/b", "a", true},
		{"a/b/c", "a", true},
		{"a/b/c", "a/b", true},
		{"a", "a", true},
		{"a/b", "a/b", true},
		{"a", "a/b", false},
		{"b", "a", false},
		{"b/a", "a", false},
		{"a/c", "a/b", false},
		{"c/b", "a/b", false},
		{"ab", "a", false},
		{"a", "ab", false},
		{"ab/c", "a", false},
		{"a/bc", "a/b", false},
		{"b/a", "a/b", false},
		{"\xff/\x00", "\xff", true},
		{"\xff/\x00", "\xfe", false},
	}
	for _, c := range cases {
		if got := Below(c.p, c.dir); got != c.want {
			t.Errorf("Below(%q, %q) = %v", c.p, c.dir, got)
		}
		if got := Below("/"+c.p, "/"+c.dir); got != c.want {
			t.Errorf("Below(%q, %q) = %v", "/"+c.p, "/"+c.dir, got)
		}
		if Below("/"+c.p, c.dir) || Below(c.p, "/"+c.dir) {
			t.Errorf("%q and %q: one at the root lies below one that is not", c.p, c.dir)
		}
	}
}

// P2.3: no parts, parts that go, and `..` in the directory and behind it.
func TestBelowEdges(t *testing.T) {
	cases := []struct {
		p, dir string
		want   bool
	}{
		{"", "", true}, {".", "", true}, {"", ".", true}, {"a", "", true}, {"a", ".", true},
		{"", "a", false}, {".", "a", false},
		{"/", "/", true}, {"/a", "/", true}, {"/", "/a", false}, {"//a", "/", true},
		{"a", "/", false}, {"", "/", false}, {"/", ".", false}, {"/", "", false}, {"/a", ".", false},
		{"a//b", "a", true}, {"a/./b", "a/", true}, {"./a/b", "a", true}, {"a/b", "./a/.", true},
		{"a/../b", "a", false}, {"a/../b", "b", true}, {"a/b/../../c", "a", false}, {"a/b/..", "a", true},
		{"a/b", "x/../a", true}, {"a", "x/..", true}, {"a/..", "a", false}, {"a/b", "a/b/..", true},
		{"..", ".", false}, {"..", "", false}, {"../a", ".", false}, {"../../a", ".", false}, {"a/../..", ".", false},
		{"..", "..", false}, {"../a", "..", false}, {"../a", "../a", false}, {"../../a", "..", false},
		{"a", "..", false}, {"../a/b", "../a", false}, {"a", "a/../..", false},
		{"/../a", "/", true}, {"/a", "/..", true}, {"/..", "/", true}, {"/a", "/../a", true},
		{"..a", ".", true}, {"..a/b", "..a", true}, {"a/..b", "a", true}, {".../a", "...", true},
	}
	for _, c := range cases {
		if got := Below(c.p, c.dir); got != c.want {
			t.Errorf("Below(%q, %q) = %v", c.p, c.dir, got)
		}
	}
}

// P2.3: all pairs of short paths, held against the beginnings of their texts.
func TestBelowEverywhere(t *testing.T) {
	var some []string
	all("ab./", 4, func(p string) { some = append(some, p) })
	for _, p := range some {
		for _, dir := range some {
			if got, want := Below(p, dir), begins(stdpath.Clean(p), stdpath.Clean(dir)); got != want {
				t.Fatalf("Below(%q, %q) = %v", p, dir, got)
			}
		}
	}
}

// begins tells of clean paths whether one is the other, or lies in it.
func begins(p, dir string) bool {
	outside := func(p string) bool { return p == ".." || strings.HasPrefix(p, "../") }
	switch {
	case outside(p) || outside(dir) || stdpath.IsAbs(p) != stdpath.IsAbs(dir):
		return false
	case dir == "." || dir == "/":
		return true
	}
	return p == dir || strings.HasPrefix(p, dir+"/")
}

// P2.4: what is clean stays.
func TestCleanStays(t *testing.T) {
	every(func(p string) {
		clean := Clean(p)
		if again := Clean(clean); again != clean {
			t.Fatalf("Clean(%q) = %q, clean again %q", p, clean, again)
		}
		if !slices.Equal(Parts(clean), Parts(p)) {
			t.Fatalf("%q has other parts, if it is clean", p)
		}
	})
}

// P2.5: Dir and Name, joined, are the path, clean, if it does not end with a `/`.
func TestDirAndNameJoined(t *testing.T) {
	every(func(p string) {
		if strings.HasSuffix(p, "/") {
			return
		}
		if got := Join(Dir(p), Name(p)); got != Clean(p) {
			t.Fatalf("%q: %q and %q, joined, are %q", p, Dir(p), Name(p), got)
		}
	})
}

// P2.6: Root and Suffix, one behind the other, are the path.
func TestRootAndSuffix(t *testing.T) {
	every(func(p string) {
		if got := Root(p) + Suffix(p); got != p {
			t.Fatalf("%q: Root and Suffix are %q", p, got)
		}
	})
}

// Ways: a path's pieces can be left before their end.
func TestPiecesBreakOff(t *testing.T) {
	var seen []string
	for part := range pieces("a//b/c") {
		seen = append(seen, part)
		if len(seen) == 3 {
			break
		}
	}
	if !slices.Equal(seen, []string{"a", "", "b"}) {
		t.Errorf("seen %q", seen)
	}
}

// R1: long paths end, in time that grows with their length.
func TestLongPaths(t *testing.T) {
	const n = 1 << 20
	check(t, "Clean", Clean,
		pair{strings.Repeat("/", n), "/"},
		pair{strings.Repeat("./", n), "."},
		pair{strings.Repeat("a/", n) + strings.Repeat("../", n), "."},
		pair{"/" + strings.Repeat("../", n) + "a", "/a"},
	)
	long := strings.Repeat("../", n)
	if got := Clean(long); got != long[:len(long)-1] {
		t.Error("many .. do not stay")
	}
	if Suffix(strings.Repeat("a", n)+".c") != ".c" || !Below("x/"+strings.Repeat("a/", n), "x") {
		t.Error("a long path has lost its suffix, or its directory")
	}
}
