package stale

import (
	"slices"
	"strings"
	"testing"

	"bobstay/api"
	"bobstay/graph"
	"bobstay/vfs"
)

// store is a store with these files, each one younger than the one ahead of it.
func store(t *testing.T, files ...string) *vfs.Store {
	t.Helper()
	s, e := vfs.New(api.MaxRoom)
	if e != api.OK {
		t.Fatal(e)
	}
	for _, f := range files {
		if e := s.Write(f, f); e != api.OK {
			t.Fatal(f, e)
		}
	}
	return s
}

// node is a node with a command.
func node(name string, sources ...string) graph.Node {
	return graph.Node{Name: name, Kind: api.Single, Sources: sources, Commands: []string{"x"}}
}

// kind is a node of another kind.
func kind(n graph.Node, k int) graph.Node {
	n.Kind = k
	return n
}

// phony is a node that is no file.
func phony(n graph.Node) graph.Node {
	n.Phony = true
	return n
}

// bareOf is a node without its commands.
func bareOf(n graph.Node) graph.Node {
	n.Commands = nil
	return n
}

// TestWhy is P18.1's reasons, each ahead of the ones behind it.
func TestWhy(t *testing.T) {
	s := store(t, "a", "t", "b")
	for _, c := range []struct {
		name string
		n    graph.Node
		made []string
		want int
	}{
		{"a source that is older", node("t", "a"), nil, 0},
		{"no source", node("t"), nil, 0},
		{"a kind that is none", kind(node("t", "a"), 0), nil, 0},
		{"always", kind(node("t", "a"), api.Always), nil, 2},
		{"phony", phony(node("t", "a")), nil, 2},
		{"phony, and nothing there", phony(node("p", "a")), nil, 2},
		{"always, and nothing there", kind(node("p"), api.Always), nil, 2},
		{"nothing there", node("p", "a"), nil, 3},
		{"nothing there, of the kind Double", kind(node("p"), api.Double), nil, 3},
		{"nothing there, and a newer source", node("p", "b"), []string{"b"}, 3},
		{"Double without sources", kind(node("t"), api.Double), nil, 4},
		{"Double with an older source", kind(node("t", "a"), api.Double), nil, 0},
		{"Double with a newer source", kind(node("t", "b"), api.Double), nil, 5},
		{"a newer source", node("t", "a", "b"), nil, 5},
		{"a source that was made", node("t", "a"), []string{"x", "a"}, 5},
		{"a source that is not there", node("t", "a", "z"), nil, 5},
		{"something else was made", node("t", "a"), []string{"b", "t"}, 0},
		{"itself as a source", node("t", "t"), nil, 0},
		{"a path from the root on", node("/t", "/a"), nil, 0},
		{"a path that is not clean", node("./t", "x/../b"), nil, 5},
		{"what was made goes by its name as it stands", node("t", "a"), []string{"/a"}, 0},
		{"no commands", bareOf(node("t", "b")), nil, 0},
		{"no commands, phony", bareOf(phony(node("t", "b"))), nil, 0},
		{"no commands, always", bareOf(kind(node("t"), api.Always)), nil, 0},
		{"no commands, nothing there", bareOf(node("p")), nil, 0},
		{"no commands, Double", bareOf(kind(node("t"), api.Double)), nil, 0},
		{"a name that may not be", node(strings.Repeat("n", 256)), nil, 3},
		{"a source that may not be", node("t", strings.Repeat("n", 256)), nil, 5},
		{"no name: the directory at the root", node("", "a"), nil, 5},
	} {
		if got := Why(c.n, s, c.made); got != c.want {
			t.Errorf("%s: Why is %d, not %d", c.name, got, c.want)
		}
	}
}

// TestNewer is P18.1's sources.
func TestNewer(t *testing.T) {
	s := store(t, "a", "t", "b", "c")
	for _, c := range []struct {
		n    graph.Node
		made []string
		want []string
	}{
		{node("t", "a", "b", "c"), nil, []string{"b", "c"}},
		{node("t", "c", "a", "b"), nil, []string{"c", "b"}},
		{node("t", "a"), nil, nil},
		{node("t"), []string{"a"}, nil},
		{node("t", "z", "a"), nil, []string{"z"}},
		{node("t", "c", "a", "b"), []string{"b", "a"}, []string{"c", "a", "b"}},
		{node("p", "a", "b", "z"), nil, []string{"a", "b", "z"}},
		{node("p"), []string{"p"}, nil},
		{node("t", "b", "a", "b"), nil, []string{"b", "b"}},
		{bareOf(node("t", "b")), nil, []string{"b"}},
		{phony(node("t", "a", "b")), nil, []string{"b"}},
		{kind(node("t", "a", "b"), api.Always), nil, []string{"b"}},
	} {
		if got := Newer(c.n, s, c.made); !slices.Equal(got, c.want) {
			t.Errorf("Newer of %q %q, with %q made: %q, not %q", c.n.Name, c.n.Sources, c.made, got, c.want)
		}
	}
}

// TestSameTime: a source of the same time is none that is newer, a later one is.
func TestSameTime(t *testing.T) {
	s := store(t, "a")
	if s.Mkdir("d") != api.OK || s.Write("d/x", "") != api.OK {
		t.Fatal("no store")
	}
	if got := Newer(node("a", "a", "./a", "/a"), s, nil); len(got) != 0 {
		t.Errorf("a node's own file is newer: %q", got)
	}
	if got := Why(node("a", "d"), s, nil); got != 5 {
		t.Errorf("a directory that is younger: %d", got)
	}
	if got := Why(node("d", "a"), s, nil); got != 0 {
		t.Errorf("a directory with an older source: %d", got)
	}
}

// TestNoNote: neither asks in a way that is noted.
func TestNoNote(t *testing.T) {
	s := store(t, "a", "t", "b")
	s.Notes(true)
	Why(node("t", "a", "b", "z"), s, nil)
	Newer(node("t", "a", "b", "z"), s, nil)
	Newer(node("p", "a", "b", "z"), s, nil)
	Changed(Meta{Touches: []api.Touch{{Kind: api.Read, Path: "a"}, {Kind: api.Wrote, Path: "b"}}}, nil, 9, s)
	if l := s.Notes(false); len(l) != 0 {
		t.Errorf("noted: %v", l)
	}
	if s.Clock() != 3 {
		t.Errorf("the clock is %d", s.Clock())
	}
}

// TestNoStore: in a store that is none nothing is there.
func TestNoStore(t *testing.T) {
	for _, s := range []*vfs.Store{nil, {}} {
		if got := Why(node("t", "a"), s, nil); got != 3 {
			t.Errorf("Why is %d", got)
		}
		if got := Newer(node("t", "a", "b"), s, nil); !slices.Equal(got, []string{"a", "b"}) {
			t.Errorf("Newer is %q", got)
		}
		if !Changed(Meta{Touches: []api.Touch{{Kind: api.Read, Path: "a"}}}, nil, 9, s) {
			t.Error("what is not there is not changed")
		}
		if Changed(Meta{}, nil, 9, s) {
			t.Error("nothing is changed")
		}
	}
}

// TestChanged is P18.4.
func TestChanged(t *testing.T) {
	s := store(t, "a", "b", "c")
	read := func(p string) api.Touch { return api.Touch{Kind: api.Read, Path: p} }
	wrote := func(p string) api.Touch { return api.Touch{Kind: api.Wrote, Path: p} }
	erased := func(p string) api.Touch { return api.Touch{Kind: api.Erased, Path: p} }
	for _, c := range []struct {
		name    string
		m, now  []string
		touches []api.Touch
		at      int
		want    bool
	}{
		{"nothing", nil, nil, nil, 0, false},
		{"no commands, empty", nil, []string{}, nil, 0, false},
		{"the same commands", []string{"x", "y"}, []string{"x", "y"}, nil, 0, false},
		{"another command", []string{"x", "y"}, []string{"x", "z"}, nil, 9, true},
		{"another order", []string{"x", "y"}, []string{"y", "x"}, nil, 9, true},
		{"one more", []string{"x"}, []string{"x", "y"}, nil, 9, true},
		{"one less", []string{"x", "y"}, []string{"x"}, nil, 9, true},
		{"one that is empty", []string{""}, nil, nil, 9, true},
		{"read, and older", nil, nil, []api.Touch{read("/a")}, 2, false},
		{"read, and of that time", nil, nil, []api.Touch{read("/b")}, 2, false},
		{"read, and later", nil, nil, []api.Touch{read("/c")}, 2, true},
		{"read, and gone", nil, nil, []api.Touch{read("/z")}, 9, true},
		{"the second one later", nil, nil, []api.Touch{read("a"), read("c")}, 2, true},
		{"written, and later", nil, nil, []api.Touch{wrote("/c")}, 0, false},
		{"written, and gone", nil, nil, []api.Touch{wrote("/z")}, 9, true},
		{"read and written, and later", nil, nil, []api.Touch{read("c"), wrote("c")}, 2, true},
		{"written and read, and later", nil, nil, []api.Touch{wrote("c"), read("c")}, 2, false},
		{"erased, and gone", nil, nil, []api.Touch{erased("/z")}, 9, false},
		{"erased, and there", nil, nil, []api.Touch{erased("/a")}, 0, false},
		{"written and erased, and gone", nil, nil, []api.Touch{wrote("/z"), erased("/z")}, 9, false},
		{"read and erased, and gone", nil, nil, []api.Touch{read("/z"), erased("/z")}, 9, true},
		{"at a time below 0", nil, nil, []api.Touch{read("/a")}, -1, true},
		{"a touch of no kind", nil, nil, []api.Touch{{Kind: 9, Path: "z"}}, 9, false},
	} {
		m := Meta{Commands: c.m, Touches: c.touches}
		if got := Changed(m, c.now, c.at, s); got != c.want {
			t.Errorf("%s: %v", c.name, got)
		}
	}
}

// TestFile is P18.4's path.
func TestFile(t *testing.T) {
	for _, c := range [][2]string{
		{"t", "/meta/t.meta"},
		{"a.o", "/meta/a.o.meta"},
		{"d/e/f", "/meta/d%se%sf.meta"},
		{"/t", "/meta/%st.meta"},
		{"%", "/meta/%%.meta"},
		{"%s", "/meta/%%s.meta"},
		{"/%s/", "/meta/%s%%s%s.meta"},
		{"", "/meta/.meta"},
		{".", "/meta/..meta"},
		{"..", "/meta/...meta"},
		{"../x", "/meta/..%sx.meta"},
		{"a\nb\\c", "/meta/a\nb\\c.meta"},
		{"\xff\x00", "/meta/\xff\x00.meta"},
	} {
		if got := File(c[0]); got != c[1] {
			t.Errorf("File of %q: %q, not %q", c[0], got, c[1])
		}
	}
}

// TestMadeBehindSources is P18.6.
func TestMadeBehindSources(t *testing.T) {
	for _, k := range []int{0, api.Single, api.Double} {
		s := store(t, "b", "a")
		n := kind(node("t", "a", "b"), k)
		if got := Why(n, s, nil); got != 3 {
			t.Fatalf("kind %d, ahead: %d", k, got)
		}
		s.Write("t", "")
		if got := Why(n, s, nil); got != 0 {
			t.Errorf("kind %d, made: %d", k, got)
		}
		s.Later(1000)
		if got := Why(n, s, nil); got != 0 {
			t.Errorf("kind %d, much later: %d", k, got)
		}
		s.Touch("b")
		if got := Why(n, s, nil); got != 5 {
			t.Errorf("kind %d, touched: %d", k, got)
		}
		s.Touch("t")
		s.Remove("a")
		if got := Newer(n, s, nil); !slices.Equal(got, []string{"a"}) {
			t.Errorf("kind %d, a source removed: %q", k, got)
		}
	}
}

// TestOwnMemory: what is answered is the caller's, and nothing is turned that was
// handed in.
func TestOwnMemory(t *testing.T) {
	s := store(t, "t", "a", "b")
	for _, name := range []string{"t", "p"} {
		n := node(name, "a", "b")
		l := Newer(n, s, nil)
		l[0] = "x"
		l = append(l[:1], "y")
		if !slices.Equal(n.Sources, []string{"a", "b"}) {
			t.Errorf("%s: the node's sources are %q", name, n.Sources)
		}
		if got := Newer(n, s, nil); !slices.Equal(got, []string{"a", "b"}) {
			t.Errorf("%s: Newer is %q by now", name, got)
		}
	}
	made := []string{"b", "a", "b"}
	Newer(node("t", "a"), s, made)
	if !slices.Equal(made, []string{"b", "a", "b"}) {
		t.Errorf("what was made is %q", made)
	}
	touches := []api.Touch{{Kind: api.Wrote, Path: "b"}, {Kind: api.Read, Path: "a"}}
	seen := Seen(touches)
	seen[0].Path, seen[1].Path = "x", "y"
	if touches[0].Path != "b" || touches[1].Path != "a" {
		t.Errorf("the touches are %v", touches)
	}
}
