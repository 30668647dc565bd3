package vfs

import (
	"math"
	"slices"
	"strconv"
	"strings"
	"testing"

	"bobstay/api"
)

// long is a name of 256 bytes, one more than may be.
var long = strings.Repeat("x", 256)

// full is a text of as many bytes as may be.
var full = strings.Repeat("t", api.MaxText)

// fresh is a new store with the greatest room, in which d is a directory, d/in
// a file, e an empty directory, and f a file.
func fresh(t *testing.T) *Store {
	t.Helper()
	s := empty(t, api.MaxRoom)
	fine(t, s.Mkdir("d"), s.Write("d/in", "inner"), s.Mkdir("e"), s.Write("f", "outer"))
	return s
}

func empty(t *testing.T, room int) *Store {
	t.Helper()
	s, e := New(room)
	if e != api.OK || s == nil {
		t.Fatalf("New(%d) = %v, %v", room, s, e)
	}
	return s
}

func fine(t *testing.T, errors ...api.Errno) {
	t.Helper()
	for i, e := range errors {
		if e != api.OK {
			t.Fatalf("call %d is refused: %v", i, e)
		}
	}
}

func same[T comparable](t *testing.T, what string, got, want T) {
	t.Helper()
	if got != want {
		t.Errorf("%s: got %v, want %v", what, got, want)
	}
}

func sameList[T comparable](t *testing.T, what string, got []T, want ...T) {
	t.Helper()
	if !slices.Equal(got, want) {
		t.Errorf("%s: got %v, want %v", what, got, want)
	}
}

func reads(t *testing.T, s *Store, p, want string) {
	t.Helper()
	got, e := s.Read(p)
	same(t, "Read "+p, e, api.OK)
	same(t, "text of "+p, got, want)
}

func stands(t *testing.T, s *Store, p string, time int, dir bool) {
	t.Helper()
	gotTime, gotDir, e := s.Stat(p)
	same(t, "Stat "+p, e, api.OK)
	same(t, "time of "+p, gotTime, time)
	same(t, p+" is a directory", gotDir, dir)
}

func isNone(t *testing.T, s *Store, p string) {
	t.Helper()
	time, dir, e := s.Stat(p)
	if time != 0 || dir || e != api.ErrNone {
		t.Errorf("Stat(%q) = %d, %v, %v, want nothing there", p, time, dir, e)
	}
}

func lists(t *testing.T, s *Store, dir string, want ...string) {
	t.Helper()
	got, e := s.List(dir)
	same(t, "List "+dir, e, api.OK)
	sameList(t, "names in "+dir, got, want...)
}

// dump tells all of a store that a call can tell, without turning it.
func dump(s *Store) string {
	notes := s.notes
	noting := s.noting
	s.noting = false
	var b strings.Builder
	b.WriteString("clock " + strconv.Itoa(s.Clock()) + " used " + strconv.Itoa(s.Used()))
	b.WriteString(" noting " + strconv.FormatBool(noting) + "\n")
	dumpDir(s, "/", &b)
	b.WriteString(strings.Join(s.All(), ":"))
	for _, n := range notes {
		b.WriteString(" " + strconv.Itoa(n.Kind) + n.Path)
	}
	s.noting = noting
	return b.String()
}

func dumpDir(s *Store, dir string, b *strings.Builder) {
	time, _, _ := s.Stat(dir)
	b.WriteString(dir + " " + strconv.Itoa(time) + "\n")
	names, _ := s.List(dir)
	for _, name := range names {
		p := strings.TrimSuffix(dir, "/") + "/" + name
		when, isDir, _ := s.Stat(p)
		if isDir {
			dumpDir(s, p, b)
			continue
		}
		text, _ := s.Read(p)
		b.WriteString(p + " " + strconv.Itoa(when) + " " + strconv.Quote(text) + "\n")
	}
}

// refused holds a call to its error, and to turning nothing, the clock neither.
func refused(t *testing.T, s *Store, what string, want api.Errno, call func() api.Errno) {
	t.Helper()
	ahead := dump(s)
	same(t, what, call(), want)
	if behind := dump(s); behind != ahead {
		t.Errorf("%s was refused, but turned\n%s\ninto\n%s", what, ahead, behind)
	}
}

// P3.1: which rooms may be.
func TestNewRoom(t *testing.T) {
	for _, room := range []int{-1, -2, math.MinInt, api.MaxRoom + 1, math.MaxInt} {
		if s, e := New(room); s != nil || e != api.ErrArg {
			t.Errorf("New(%d) = %v, %v, want ErrArg", room, s, e)
		}
	}
	for _, room := range []int{0, 1, 100, api.MaxRoom - 1, api.MaxRoom} {
		empty(t, room)
	}
}

// P3.1: a new store has `/` alone.
func TestNewHasRootAlone(t *testing.T) {
	s := empty(t, 10)
	stands(t, s, "/", 0, true)
	lists(t, s, "/")
	sameList(t, "All", s.All())
	same(t, "Used", s.Used(), 0)
	same(t, "Clock", s.Clock(), 0)
	sameList(t, "Notes", s.Notes(false))
	isNone(t, s, "a")
}

// P3.1: Read.
func TestRead(t *testing.T) {
	s := fresh(t)
	reads(t, s, "f", "outer")
	reads(t, s, "/d/in", "inner")
	for _, c := range []struct {
		p    string
		want api.Errno
	}{
		{"none", api.ErrNone}, {"d/none", api.ErrNone}, {"none/x", api.ErrNone},
		{"f/x", api.ErrNone}, {"f/x/y", api.ErrNone}, {"in", api.ErrNone},
		{"d", api.ErrDir}, {"e", api.ErrDir}, {"/", api.ErrDir}, {"", api.ErrDir}, {"..", api.ErrDir},
		{long, api.ErrArg}, {"d/" + long, api.ErrArg}, {long + "/f", api.ErrArg},
	} {
		refused(t, s, "Read "+c.p, c.want, func() api.Errno {
			text, e := s.Read(c.p)
			same(t, "text of "+c.p, text, "")
			return e
		})
	}
}

// P3.1: Stat.
func TestStat(t *testing.T) {
	s := fresh(t)
	stands(t, s, "/", 0, true)
	stands(t, s, "d", 1, true)
	stands(t, s, "d/in", 2, false)
	stands(t, s, "e", 3, true)
	stands(t, s, "f", 4, false)
	for _, p := range []string{"none", "d/none", "none/x", "f/x", "in"} {
		isNone(t, s, p)
	}
	time, dir, e := s.Stat(long)
	if time != 0 || dir || e != api.ErrArg {
		t.Errorf("Stat of a long name = %d, %v, %v", time, dir, e)
	}
}

// P3.1: List.
func TestList(t *testing.T) {
	s := fresh(t)
	lists(t, s, "/", "d", "e", "f")
	lists(t, s, "", "d", "e", "f")
	lists(t, s, "d", "in")
	lists(t, s, "e")
	for _, c := range []struct {
		p    string
		want api.Errno
	}{
		{"none", api.ErrNone}, {"f/x", api.ErrNone}, {"f", api.ErrDir}, {"d/in", api.ErrDir}, {long, api.ErrArg},
	} {
		refused(t, s, "List "+c.p, c.want, func() api.Errno {
			names, e := s.List(c.p)
			sameList(t, "names in "+c.p, names)
			return e
		})
	}
}

// P3.1: List has what lies in the directory itself, and no name twice.
func TestListOneLevel(t *testing.T) {
	s := empty(t, 100)
	fine(t, s.Mkdir("a"), s.Mkdir("a/b"), s.Mkdir("a/b/c"), s.Write("a/b/c/x", ""), s.Mkdir("ab"), s.Write("ab/y", ""))
	lists(t, s, "/", "a", "ab")
	lists(t, s, "a", "b")
	lists(t, s, "a/b", "c")
	lists(t, s, "a/b/c", "x")
	lists(t, s, "ab", "y")
}

// P3.1: List and All rise byte by byte.
func TestRising(t *testing.T) {
	s := empty(t, 100)
	names := []string{"b", "a", "B", "ab", "a.c", "a-", "\xff", "\x00", "\x80z", "é", "10", "9", "~", " "}
	fine(t, s.Mkdir("a0"))
	for _, name := range names {
		fine(t, s.Write(name, ""), s.Write("a0/"+name, ""))
	}
	slices.Sort(names)
	lists(t, s, "a0", names...)
	inAll := []string{}
	for _, name := range names {
		inAll = append(inAll, "/"+name, "/a0/"+name)
	}
	slices.Sort(inAll)
	sameList(t, "All", s.All(), inAll...)
	lists(t, s, "/", slices.Sorted(slices.Values(append(names, "a0")))...)
}

// P3.1: All has files alone, by their whole paths, byte by byte: the `/` is a byte as others.
func TestAll(t *testing.T) {
	s := fresh(t)
	sameList(t, "All", s.All(), "/d/in", "/f")
	fine(t, s.Write("d.c", ""), s.Write("d0", ""))
	sameList(t, "All", s.All(), "/d.c", "/d/in", "/d0", "/f")
}

// P3.1: Used counts the bytes of all texts, and of nothing else.
func TestUsed(t *testing.T) {
	s := empty(t, 100)
	fine(t, s.Mkdir("d"))
	same(t, "Used", s.Used(), 0)
	fine(t, s.Write("d/a", "12345"), s.Write("b", "1"), s.Write("c", ""))
	same(t, "Used", s.Used(), 6)
	fine(t, s.Write("d/a", "12"))
	same(t, "Used of a shorter text", s.Used(), 3)
	fine(t, s.Append("b", "éé"))
	same(t, "Used of bytes, not runes", s.Used(), 7)
	fine(t, s.Move("b", "d/a"))
	same(t, "Used behind a move over a file", s.Used(), 5)
	fine(t, s.Remove("d/a"))
	same(t, "Used behind a removal", s.Used(), 0)
}

// P3.1, P3.2: where paths lie: below the root, clean; a `..` at the root goes by itself.
func TestWherePathsLie(t *testing.T) {
	for _, p := range []string{
		"a/b", "/a/b", "./a/b", "a//b", "//a///b/", "a/./b/.", "../a/b", "/../../a/b",
		"a/../a/b", "a/x/../b", "x/../a/b", "a/b/c/..", "../../../a/x/y/../../b",
	} {
		s := empty(t, 10)
		fine(t, s.Mkdir("a"), s.Write(p, "t"))
		sameList(t, "All of "+p, s.All(), "/a/b")
		reads(t, s, p, "t")
		reads(t, s, "/a/b", "t")
		stands(t, s, p, 2, false)
	}
	for _, p := range []string{"/", "", ".", "..", "//", "/..", "./..", "a/..", "/a/../..", "../.."} {
		s := empty(t, 10)
		stands(t, s, p, 0, true)
		lists(t, s, p)
	}
}

// P3.1, P3.2: a part of 255 bytes may be, one of 256 not, wherever it stands.
func TestNameLength(t *testing.T) {
	s := empty(t, 100)
	most := long[1:]
	fine(t, s.Mkdir(most), s.Write(most+"/"+most, "x"))
	reads(t, s, most+"/"+most, "x")
	fine(t, s.Append(most+"/"+most, "y"), s.Touch(most+"/"+most), s.Move(most+"/"+most, most+"/b"), s.Remove(most+"/b"))
	lists(t, s, most)
	for _, p := range []string{long, "/" + long, long + "/a", "/" + most + "/" + long, "none/" + long, long + "/" + long, long + "x"} {
		everyCall(t, s, p, api.ErrArg)
	}
}

// P3.1: what goes when a path is made clean is no part of it.
func TestLongPartThatGoes(t *testing.T) {
	s := fresh(t)
	reads(t, s, long+"/../f", "outer")
}

// everyCall holds all calls that take a path to an error, and to turning nothing.
func everyCall(t *testing.T, s *Store, p string, want api.Errno) {
	t.Helper()
	calls := []struct {
		name string
		call func() api.Errno
	}{
		{"Write", func() api.Errno { return s.Write(p, "x") }},
		{"Append", func() api.Errno { return s.Append(p, "x") }},
		{"Touch", func() api.Errno { return s.Touch(p) }},
		{"Mkdir", func() api.Errno { return s.Mkdir(p) }},
		{"Remove", func() api.Errno { return s.Remove(p) }},
		{"Move from", func() api.Errno { return s.Move(p, "b") }},
		{"Move to", func() api.Errno { return s.Move("b", p) }},
		{"Move of itself", func() api.Errno { return s.Move(p, p) }},
		{"Read", func() api.Errno { _, e := s.Read(p); return e }},
		{"Stat", func() api.Errno { _, _, e := s.Stat(p); return e }},
		{"List", func() api.Errno { _, e := s.List(p); return e }},
	}
	for _, c := range calls {
		refused(t, s, c.name, want, c.call)
	}
}

// P3.2: Write makes a file, and writes over one.
func TestWrite(t *testing.T) {
	s := fresh(t)
	fine(t, s.Write("d/new", "one"))
	reads(t, s, "d/new", "one")
	stands(t, s, "d/new", 5, false)
	fine(t, s.Write("d/new", "other"))
	reads(t, s, "d/new", "other")
	stands(t, s, "d/new", 6, false)
	fine(t, s.Write("d/new", ""))
	reads(t, s, "d/new", "")
	same(t, "Clock", s.Clock(), 7)
}

// wrongPlaces are paths at which nothing may be written.
var wrongPlaces = []struct {
	p    string
	want api.Errno
}{
	{"none/x", api.ErrNone}, {"d/none/x", api.ErrNone}, {"none/none/x", api.ErrNone}, {"f/x/y", api.ErrNone},
	{"f/x", api.ErrDir}, {"d/in/x", api.ErrDir},
	{"d", api.ErrDir}, {"e", api.ErrDir}, {"/", api.ErrDir}, {"", api.ErrDir}, {"..", api.ErrDir},
}

// P3.2: where Write, and Append, are refused; the place counts ahead of the text.
func TestWriteRefused(t *testing.T) {
	s := fresh(t)
	for _, c := range wrongPlaces {
		for _, text := range []string{"", "x", full, full + "x"} {
			refused(t, s, "Write "+c.p, c.want, func() api.Errno { return s.Write(c.p, text) })
			refused(t, s, "Append "+c.p, c.want, func() api.Errno { return s.Append(c.p, text) })
		}
	}
	refused(t, s, "Write of a long name", api.ErrArg, func() api.Errno { return s.Write(long, full+"x") })
}

// P3.2: a text of 2^16 bytes may be, one more not, though there were room.
func TestWriteLongText(t *testing.T) {
	s := fresh(t)
	fine(t, s.Write("a", full))
	reads(t, s, "a", full)
	refused(t, s, "Write over a file", api.ErrMany, func() api.Errno { return s.Write("a", full+"x") })
	refused(t, s, "Write of a new one", api.ErrMany, func() api.Errno { return s.Write("b", full+"x") })
	refused(t, s, "Append", api.ErrMany, func() api.Errno { return s.Append("a", "x") })
	fine(t, s.Append("a", ""), s.Write("b", full[1:]), s.Append("b", "x"))
	refused(t, s, "Append", api.ErrMany, func() api.Errno { return s.Append("b", "x") })
	refused(t, s, "Append to no file", api.ErrMany, func() api.Errno { return s.Append("c", full+"x") })
}

// P3.2: too long a text is told ahead of too little room.
func TestWriteManyAheadOfFull(t *testing.T) {
	s := empty(t, 5)
	refused(t, s, "Write", api.ErrMany, func() api.Errno { return s.Write("a", full+"x") })
	refused(t, s, "Write", api.ErrFull, func() api.Errno { return s.Write("a", full) })
	fine(t, s.Write("a", "x"))
	refused(t, s, "Append", api.ErrMany, func() api.Errno { return s.Append("a", full) })
	refused(t, s, "Append", api.ErrFull, func() api.Errno { return s.Append("a", full[1:]) })
}

// P3.2: the last byte of the room, and one more.
func TestRoom(t *testing.T) {
	s := empty(t, 10)
	refused(t, s, "Write", api.ErrFull, func() api.Errno { return s.Write("a", "12345678901") })
	fine(t, s.Write("a", "1234567"), s.Write("b", "123"))
	same(t, "Used", s.Used(), 10)
	refused(t, s, "Write of one more", api.ErrFull, func() api.Errno { return s.Write("c", "1") })
	refused(t, s, "Write over", api.ErrFull, func() api.Errno { return s.Write("b", "1234") })
	refused(t, s, "Append", api.ErrFull, func() api.Errno { return s.Append("a", "1") })
	refused(t, s, "Append to no file", api.ErrFull, func() api.Errno { return s.Append("c", "1") })
	fine(t, s.Write("c", ""), s.Append("a", ""), s.Touch("a"), s.Touch("d"), s.Mkdir("e"), s.Move("a", "e/a"))
	fine(t, s.Write("e/a", "7654321"), s.Write("e/a", "1"), s.Write("b", "123456789"))
	same(t, "Used", s.Used(), 10)
	fine(t, s.Remove("b"), s.Write("c", "123456789"))
	refused(t, s, "Append", api.ErrFull, func() api.Errno { return s.Append("c", "1") })
}

// P3.2: a room of 0 has files without bytes; the greatest one has 2^20 bytes.
func TestRoomEdges(t *testing.T) {
	s := empty(t, 0)
	fine(t, s.Write("a", ""), s.Touch("b"), s.Append("c", ""), s.Mkdir("d"))
	refused(t, s, "Write", api.ErrFull, func() api.Errno { return s.Write("a", "x") })
	refused(t, s, "Append", api.ErrFull, func() api.Errno { return s.Append("a", "x") })
	s = empty(t, api.MaxRoom)
	for i := range 16 {
		fine(t, s.Write(strconv.Itoa(i), full))
	}
	same(t, "Used", s.Used(), api.MaxRoom)
	refused(t, s, "Write", api.ErrFull, func() api.Errno { return s.Write("x", "x") })
}

// P3.2: 512 files and directories, with `/`, and one more.
func TestManyFiles(t *testing.T) {
	s := empty(t, 100)
	fine(t, s.Mkdir("d"))
	for i := range 510 {
		fine(t, s.Write("d/"+strconv.Itoa(i), ""))
	}
	same(t, "files", len(s.All()), 510)
	more := func() {
		t.Helper()
		refused(t, s, "Write", api.ErrFull, func() api.Errno { return s.Write("x", "") })
		refused(t, s, "Append", api.ErrFull, func() api.Errno { return s.Append("x", "y") })
		refused(t, s, "Touch", api.ErrFull, func() api.Errno { return s.Touch("x") })
		refused(t, s, "Mkdir", api.ErrFull, func() api.Errno { return s.Mkdir("x") })
		refused(t, s, "Write of a long text", api.ErrMany, func() api.Errno { return s.Write("x", full+"x") })
		refused(t, s, "Mkdir of one that is there", api.ErrThere, func() api.Errno { return s.Mkdir("d") })
		refused(t, s, "Mkdir below none", api.ErrNone, func() api.Errno { return s.Mkdir("x/y") })
		refused(t, s, "Mkdir below a file", api.ErrDir, func() api.Errno { return s.Mkdir("d/1/y") })
	}
	more()
	fine(t, s.Write("d/0", "x"), s.Append("d/1", "y"), s.Touch("d/2"), s.Touch("d"), s.Move("d/3", "three"))
	more()
	fine(t, s.Remove("d/4"), s.Mkdir("x"))
	refused(t, s, "Write", api.ErrFull, func() api.Errno { return s.Write("x/y", "") })
	fine(t, s.Remove("x"), s.Touch("x"), s.Move("x", "three"), s.Append("y", ""))
	same(t, "Used", s.Used(), 2)
}

// P3.2: directories alone are at most 512, too, and may lie deep in one another.
func TestManyDirectories(t *testing.T) {
	s := empty(t, 0)
	p := ""
	for range 511 {
		p += "/d"
		fine(t, s.Mkdir(p))
	}
	refused(t, s, "Mkdir", api.ErrFull, func() api.Errno { return s.Mkdir(p + "/d") })
	refused(t, s, "Write", api.ErrFull, func() api.Errno { return s.Write(p+"/d", "") })
	lists(t, s, p)
	fine(t, s.Remove(p), s.Write(p, ""))
	sameList(t, "All", s.All(), p)
}

// P3.2: Append writes behind a file's text; of no file it is as Write.
func TestAppend(t *testing.T) {
	s := empty(t, 100)
	fine(t, s.Append("a", "one"))
	reads(t, s, "a", "one")
	stands(t, s, "a", 1, false)
	fine(t, s.Append("a", " two"), s.Append("a", ""))
	reads(t, s, "a", "one two")
	stands(t, s, "a", 3, false)
	fine(t, s.Append("b", ""))
	reads(t, s, "b", "")
	stands(t, s, "b", 4, false)
}

// P3.2: Touch of a file, of none, and of a directory.
func TestTouch(t *testing.T) {
	s := fresh(t)
	fine(t, s.Touch("f"))
	reads(t, s, "f", "outer")
	stands(t, s, "f", 5, false)
	fine(t, s.Touch("d/new"))
	reads(t, s, "d/new", "")
	stands(t, s, "d/new", 6, false)
	fine(t, s.Touch("d"))
	stands(t, s, "d", 7, true)
	lists(t, s, "d", "in", "new")
	fine(t, s.Touch("/"))
	stands(t, s, "/", 8, true)
	lists(t, s, "/", "d", "e", "f")
	same(t, "Used", s.Used(), 10)
	for _, c := range wrongPlaces {
		if _, dir, _ := s.Stat(c.p); !dir {
			refused(t, s, "Touch "+c.p, c.want, func() api.Errno { return s.Touch(c.p) })
		}
	}
}

// The chapter's first example.
func TestExample(t *testing.T) {
	s := empty(t, 100)
	fine(t, s.Write("a", "x"), s.Write("b", "y"), s.Touch("a"))
	stands(t, s, "a", 3, false)
	stands(t, s, "b", 2, false)
}

// P3.2: Mkdir.
func TestMkdir(t *testing.T) {
	s := fresh(t)
	fine(t, s.Mkdir("d/sub"), s.Mkdir("/d/sub/deep"))
	stands(t, s, "d/sub", 5, true)
	stands(t, s, "d/sub/deep", 6, true)
	lists(t, s, "d/sub", "deep")
	lists(t, s, "d/sub/deep")
	stands(t, s, "d", 1, true)
	for _, c := range []struct {
		p    string
		want api.Errno
	}{
		{"d", api.ErrThere}, {"f", api.ErrThere}, {"d/in", api.ErrThere}, {"/", api.ErrThere}, {"", api.ErrThere}, {"..", api.ErrThere},
		{"none/x", api.ErrNone}, {"f/x/y", api.ErrNone}, {"f/x", api.ErrDir}, {"d/in/x", api.ErrDir},
	} {
		refused(t, s, "Mkdir "+c.p, c.want, func() api.Errno { return s.Mkdir(c.p) })
	}
}

// P3.3: Remove.
func TestRemove(t *testing.T) {
	s := fresh(t)
	for _, c := range []struct {
		p    string
		want api.Errno
	}{
		{"none", api.ErrNone}, {"none/x", api.ErrNone}, {"f/x", api.ErrNone},
		{"/", api.ErrFull}, {"", api.ErrFull}, {"..", api.ErrFull}, {"d", api.ErrFull},
	} {
		refused(t, s, "Remove "+c.p, c.want, func() api.Errno { return s.Remove(c.p) })
	}
	fine(t, s.Remove("d/in"))
	isNone(t, s, "d/in")
	same(t, "Clock", s.Clock(), 5)
	fine(t, s.Remove("d"), s.Remove("e"))
	isNone(t, s, "d")
	same(t, "Clock", s.Clock(), 7)
	lists(t, s, "/", "f")
	refused(t, s, "Remove again", api.ErrNone, func() api.Errno { return s.Remove("d") })
	fine(t, s.Remove("f"))
	refused(t, s, "Remove of an empty root", api.ErrFull, func() api.Errno { return s.Remove("/") })
	stands(t, s, "/", 0, true)
}

// P3.3: a directory that has an empty directory in it is not empty; one whose name begins as its own lies not in it.
func TestRemoveNotEmpty(t *testing.T) {
	s := empty(t, 100)
	fine(t, s.Mkdir("a"), s.Mkdir("a/b"), s.Mkdir("ab"), s.Write("ab/x", ""), s.Write("a.c", ""))
	refused(t, s, "Remove", api.ErrFull, func() api.Errno { return s.Remove("a") })
	fine(t, s.Remove("a/b"), s.Remove("a"))
	sameList(t, "All", s.All(), "/a.c", "/ab/x")
}

// P3.3: what was removed can be made again, as the other kind, too.
func TestRemoveAndMakeAgain(t *testing.T) {
	s := fresh(t)
	fine(t, s.Remove("e"), s.Write("e", "file"), s.Remove("f"), s.Mkdir("f"), s.Write("f/x", "y"))
	reads(t, s, "e", "file")
	reads(t, s, "f/x", "y")
	stands(t, s, "f", 8, true)
}

// P3.3: Move to a new path, and over a file.
func TestMove(t *testing.T) {
	s := fresh(t)
	fine(t, s.Move("f", "e/g"))
	isNone(t, s, "f")
	reads(t, s, "e/g", "outer")
	stands(t, s, "e/g", 5, false)
	fine(t, s.Move("/e/g", "d/in"))
	reads(t, s, "d/in", "outer")
	stands(t, s, "d/in", 6, false)
	lists(t, s, "e")
	same(t, "Used", s.Used(), 5)
	same(t, "Clock", s.Clock(), 6)
	stands(t, s, "d", 1, true)
	stands(t, s, "e", 3, true)
}

// P3.3: with the same path twice the clock alone goes on, however the path is told.
func TestMoveToItself(t *testing.T) {
	s := fresh(t)
	s.Notes(true)
	for i, to := range []string{"f", "/f", "./f", "../f", "d/../f", "f/"} {
		fine(t, s.Move("f", to))
		same(t, "Clock", s.Clock(), 5+i)
	}
	stands(t, s, "f", 4, false)
	sameList(t, "Notes", s.Notes(true))
	reads(t, s, "f", "outer")
}

// P3.3: where Move is refused; what is missing counts ahead of what is of the wrong kind.
func TestMoveRefused(t *testing.T) {
	s := fresh(t)
	for _, c := range []struct {
		from, to string
		want     api.Errno
	}{
		{"none", "x", api.ErrNone}, {"none", "none", api.ErrNone}, {"none", "d", api.ErrNone}, {"none", "f/x", api.ErrNone},
		{"none/x", "y", api.ErrNone}, {"f", "none/x", api.ErrNone}, {"f", "f/x/y", api.ErrNone},
		{"d", "none/x", api.ErrNone}, {"/", "none/x", api.ErrNone}, {"f", "d/none/x", api.ErrNone},
		{"d", "x", api.ErrDir}, {"d", "d", api.ErrDir}, {"d", "d/sub", api.ErrDir}, {"e", "f", api.ErrDir}, {"/", "x", api.ErrDir}, {"/", "/", api.ErrDir},
		{"f", "d", api.ErrDir}, {"f", "e", api.ErrDir}, {"f", "/", api.ErrDir}, {"d/in", "..", api.ErrDir},
		{"f", "f/x", api.ErrDir}, {"f", "d/in/x", api.ErrDir}, {"d", "f/x", api.ErrDir},
		{long, "none/x", api.ErrArg}, {"none", long, api.ErrArg}, {"f", "none/" + long, api.ErrArg}, {long, long, api.ErrArg},
	} {
		refused(t, s, "Move "+c.from+" "+c.to, c.want, func() api.Errno { return s.Move(c.from, c.to) })
	}
}

// P3.3: Later, and what of it is let be.
func TestLater(t *testing.T) {
	s := empty(t, 10)
	for _, n := range []int{-1, math.MinInt, 1<<40 + 1, math.MaxInt, 0} {
		s.Later(n)
		same(t, "Clock behind Later "+strconv.Itoa(n), s.Clock(), 0)
	}
	s.Later(1)
	s.Later(41)
	same(t, "Clock", s.Clock(), 42)
	fine(t, s.Write("a", ""))
	stands(t, s, "a", 43, false)
	s.Later(1 << 40)
	same(t, "Clock", s.Clock(), 43+1<<40)
	stands(t, s, "a", 43, false)
	stands(t, s, "/", 0, true)
}

// P3.3: a clock of 2^60 goes on once more, one above it by single ticks alone.
func TestLaterAboveEnd(t *testing.T) {
	s := empty(t, 10)
	for range 1 << 20 {
		s.Later(1 << 40)
	}
	same(t, "Clock", s.Clock(), 1<<60)
	at := s.Copy()
	at.Later(1)
	same(t, "Clock", at.Clock(), 1<<60+1)
	at.Later(1)
	same(t, "Clock", at.Clock(), 1<<60+1)
	s.Later(1 << 40)
	same(t, "Clock", s.Clock(), 1<<60+1<<40)
	for _, n := range []int{0, 1, 1 << 40} {
		s.Later(n)
		same(t, "Clock", s.Clock(), 1<<60+1<<40)
	}
	fine(t, s.Touch("a"))
	stands(t, s, "a", 1<<60+1<<40+1, false)
}

// P3.3: Later makes no note, and turns nothing but the clock.
func TestLaterTurnsClockAlone(t *testing.T) {
	s := fresh(t)
	s.Notes(true)
	ahead := dump(s)
	s.Later(7)
	same(t, "the store", dump(s), strings.Replace(ahead, "clock 4", "clock 11", 1))
}

// P3.4: nothing is noted at first.
func TestNotesAtFirst(t *testing.T) {
	s := fresh(t)
	s.Read("f")
	sameList(t, "Notes", s.Notes(false))
	s.Read("f")
	sameList(t, "Notes behind Notes(false)", s.Notes(true))
}

// P3.1 to P3.4: what is noted, in order, by whole paths.
func TestNotesOfCalls(t *testing.T) {
	s := fresh(t)
	s.Notes(true)
	s.Read("./f")
	fine(t, s.Write("d/in", "x"), s.Append("new", "y"), s.Append("new", "z"), s.Touch("f"), s.Touch("other"))
	fine(t, s.Move("new", "d/new"), s.Move("f", "other"), s.Remove("other"))
	s.Read("/d/new")
	sameList(t, "Notes", s.Notes(false),
		api.Touch{Kind: api.Read, Path: "/f"},
		api.Touch{Kind: api.Wrote, Path: "/d/in"},
		api.Touch{Kind: api.Wrote, Path: "/new"},
		api.Touch{Kind: api.Wrote, Path: "/new"},
		api.Touch{Kind: api.Wrote, Path: "/f"},
		api.Touch{Kind: api.Wrote, Path: "/other"},
		api.Touch{Kind: api.Erased, Path: "/new"},
		api.Touch{Kind: api.Wrote, Path: "/d/new"},
		api.Touch{Kind: api.Erased, Path: "/f"},
		api.Touch{Kind: api.Wrote, Path: "/other"},
		api.Touch{Kind: api.Erased, Path: "/other"},
		api.Touch{Kind: api.Read, Path: "/d/new"},
	)
}

// P3.1 to P3.4: directories, questions and calls that are refused make no note.
func TestNotesOfNothing(t *testing.T) {
	s := fresh(t)
	s.Notes(true)
	fine(t, s.Mkdir("g"), s.Touch("g"), s.Touch("/"), s.Remove("g"), s.Move("f", "f"))
	s.Stat("f")
	s.List("d")
	s.All()
	s.Used()
	s.Clock()
	s.Later(3)
	s.Copy()
	s.Read("none")
	s.Read("d")
	s.Write("none/x", "")
	s.Append("d", "")
	s.Touch("f/x")
	s.Remove("none")
	s.Move("f", "d")
	sameList(t, "Notes", s.Notes(false))
}

// P3.4: Notes(true) begins anew, Notes(false) ends; what was told is not told again.
func TestNotesBeginAnew(t *testing.T) {
	readF := api.Touch{Kind: api.Read, Path: "/f"}
	wroteG := api.Touch{Kind: api.Wrote, Path: "/g"}
	s := fresh(t)
	sameList(t, "Notes at first", s.Notes(true))
	s.Read("f")
	sameList(t, "Notes", s.Notes(true), readF)
	sameList(t, "Notes begun anew", s.Notes(true))
	fine(t, s.Write("g", ""))
	s.Read("f")
	sameList(t, "Notes of the second time", s.Notes(false), wroteG, readF)
	s.Read("f")
	sameList(t, "Notes that have ended", s.Notes(false))
	s.Read("f")
	sameList(t, "Notes that have ended", s.Notes(true))
	s.Read("f")
	sameList(t, "Notes begun anew", s.Notes(false), readF)
}

// P3.4: 4096 notes, and one more; begun anew there is place again.
func TestManyNotes(t *testing.T) {
	s := fresh(t)
	s.Notes(true)
	for range 4095 {
		s.Read("f")
	}
	fine(t, s.Move("f", "g"))
	s.Read("d/in")
	clock := s.Clock()
	got := s.Notes(true)
	same(t, "notes", len(got), 4096)
	same(t, "the first note", got[0], api.Touch{Kind: api.Read, Path: "/f"})
	same(t, "the last note", got[4095], api.Touch{Kind: api.Erased, Path: "/f"})
	same(t, "Clock", clock, 5)
	s.Read("g")
	sameList(t, "Notes begun anew", s.Notes(false), api.Touch{Kind: api.Read, Path: "/g"})
}

// P3.4: a copy is as the store, without notes, and has its room and its clock.
func TestCopy(t *testing.T) {
	s := fresh(t)
	s.Later(6)
	ahead := dump(s)
	same(t, "the copy", dump(s.Copy()), ahead)
	s.Notes(true)
	s.Read("f")
	c := s.Copy()
	same(t, "the copy of a store that notes", dump(c), ahead)
	c.Read("f")
	sameList(t, "the copy's notes", c.Notes(false))
	sameList(t, "the store's notes", s.Notes(false), api.Touch{Kind: api.Read, Path: "/f"})
	small := empty(t, 3)
	fine(t, small.Write("a", "12"))
	c = small.Copy()
	refused(t, c, "Write", api.ErrFull, func() api.Errno { return c.Write("b", "34") })
	fine(t, c.Write("b", "3"))
}

// P3.4: neither the copy nor the store turns with the other.
func TestCopyLivesByItself(t *testing.T) {
	turn := func(s *Store) {
		s.Notes(true)
		fine(t, s.Write("f", "turned"), s.Append("d/in", "!"), s.Write("g", ""), s.Mkdir("h"), s.Remove("e"), s.Touch("d"), s.Touch("/"), s.Move("g", "h/g"))
		s.Read("f")
		s.Later(5)
	}
	s := fresh(t)
	c := s.Copy()
	ahead := dump(s)
	turn(c)
	same(t, "the store behind calls of its copy", dump(s), ahead)
	c = s.Copy()
	turn(s)
	same(t, "the copy behind calls of the store", dump(c), ahead)
	turn(c)
	same(t, "both behind the same calls", dump(c), dump(s))
}

// P3.4: a nil store, and one that New did not give.
func TestStoresThatAreNone(t *testing.T) {
	for name, s := range map[string]*Store{"nil": nil, "not given": {}} {
		for _, p := range []string{"a", "/", "", "a/b", long} {
			if e := s.Write(p, "x"); e != api.ErrNil {
				t.Errorf("%s: Write = %v", name, e)
			}
			if e := s.Append(p, "x"); e != api.ErrNil {
				t.Errorf("%s: Append = %v", name, e)
			}
			if text, e := s.Read(p); text != "" || e != api.ErrNil {
				t.Errorf("%s: Read = %q, %v", name, text, e)
			}
			if e := s.Remove(p); e != api.ErrNil {
				t.Errorf("%s: Remove = %v", name, e)
			}
			if e := s.Move(p, "b"); e != api.ErrNil {
				t.Errorf("%s: Move = %v", name, e)
			}
			if e := s.Mkdir(p); e != api.ErrNil {
				t.Errorf("%s: Mkdir = %v", name, e)
			}
			if e := s.Touch(p); e != api.ErrNil {
				t.Errorf("%s: Touch = %v", name, e)
			}
			if time, dir, e := s.Stat(p); time != 0 || dir || e != api.ErrNil {
				t.Errorf("%s: Stat = %d, %v, %v", name, time, dir, e)
			}
			if names, e := s.List(p); len(names) != 0 || e != api.ErrNil {
				t.Errorf("%s: List = %v, %v", name, names, e)
			}
		}
		s.Later(5)
		s.Notes(true)
		if len(s.All()) != 0 || s.Used() != 0 || s.Clock() != 0 || len(s.Notes(false)) != 0 || s.Copy() != nil {
			t.Errorf("%s: All, Used, Clock, Notes or Copy tell something", name)
		}
	}
}

// P3.5: bytes of any value are read as they were written, in texts and in names.
func TestAnyBytes(t *testing.T) {
	s := empty(t, api.MaxRoom)
	var bytes []byte
	for b := range 256 {
		bytes = append(bytes, byte(b))
		name := "x" + string([]byte{byte(b)})
		if b == '/' {
			continue
		}
		fine(t, s.Write(name, string(bytes)))
		reads(t, s, name, string(bytes))
	}
	same(t, "files", len(s.All()), 255)
	for b := range 256 {
		if b != '/' {
			reads(t, s, "x"+string([]byte{byte(b)}), string(bytes[:b+1]))
		}
	}
	lone := empty(t, 10)
	fine(t, lone.Mkdir("\x00"), lone.Write("\x00/\xff\n", "\x00\xff\n"))
	lists(t, lone, "\x00", "\xff\n")
	reads(t, lone, "\x00/\xff\n", "\x00\xff\n")
}

// R4: what is answered is the caller's.
func TestAnswersAreTheCallers(t *testing.T) {
	s := fresh(t)
	s.Notes(true)
	s.Read("f")
	s.Read("d/in")
	notes := s.Notes(true)
	s.Read("f")
	ahead := dump(s)
	names, _ := s.List("/")
	clear(names)
	clear(s.All())
	clear(notes)
	same(t, "the store", dump(s), ahead)
	s.Read("d/in")
	sameList(t, "Notes that were told", notes, api.Touch{}, api.Touch{})
}
