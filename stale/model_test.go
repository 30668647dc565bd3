package stale

import (
	"math/rand"
	"regexp"
	"slices"
	"strings"
	"testing"

	"bobstay/api"
	"bobstay/graph"
	"bobstay/path"
	"bobstay/vfs"
)

// modelParse reads a text by expressions.
func modelParse(s string) (Meta, int) {
	right := regexp.MustCompile(`^(?s)([CRWD]) ((?:[^\\\n]|\\\\|\\n)*)$`)
	var m Meta
	lines := strings.SplitAfter(s, "\n")
	for i, l := range lines {
		if l == "" {
			break
		}
		found := right.FindStringSubmatch(strings.TrimSuffix(l, "\n"))
		if found == nil || !strings.HasSuffix(l, "\n") || found[1] == "C" && m.Touches != nil {
			return Meta{}, i + 1
		}
		text := strings.NewReplacer(`\\`, `\`, `\n`, "\n").Replace(found[2])
		if found[1] == "C" {
			m.Commands = append(m.Commands, text)
		} else {
			m.Touches = append(m.Touches, api.Touch{Kind: map[string]int{"R": 1, "W": 2, "D": 3}[found[1]], Path: text})
		}
	}
	return m, 0
}

// modelSeen asks for each path all of the touches anew.
func modelSeen(l []api.Touch) []api.Touch {
	var seen []api.Touch
	for i, t := range l {
		if slices.ContainsFunc(l[:i], func(o api.Touch) bool { return o.Path == t.Path }) {
			continue
		}
		if t.Kind == api.Read {
			seen = append(seen, t)
		}
		for j := len(l) - 1; j >= i; j-- {
			if l[j].Path == t.Path && l[j].Kind != api.Read {
				if l[j].Kind == api.Wrote {
					seen = append(seen, l[j])
				}
				break
			}
		}
	}
	return seen
}

// modelNewer asks the files by their times, as the table has them.
func modelNewer(n graph.Node, times map[string]int, made []string) []string {
	at := func(name string) (int, bool) {
		time, there := times[path.Join("/", name)]
		return time, there
	}
	now, there := at(n.Name)
	var l []string
	for _, s := range n.Sources {
		time, lies := at(s)
		if !there || !lies || slices.Contains(made, s) || time > now {
			l = append(l, s)
		}
	}
	return l
}

// modelWhy asks the reasons from the last one on.
func modelWhy(n graph.Node, times map[string]int, made []string) int {
	reason := 0
	if len(modelNewer(n, times, made)) > 0 {
		reason = 5
	}
	if n.Kind == api.Double && len(n.Sources) == 0 {
		reason = 4
	}
	if _, there := times[path.Join("/", n.Name)]; !there {
		reason = 3
	}
	if n.Kind == api.Always || n.Phony {
		reason = 2
	}
	if len(n.Commands) == 0 {
		reason = 0
	}
	return reason
}

// some are some of these texts.
func some(r *rand.Rand, n int, of ...string) []string {
	var l []string
	for range r.Intn(n + 1) {
		l = append(l, of[r.Intn(len(of))])
	}
	return l
}

// anyTouches are touches of a few paths.
func anyTouches(r *rand.Rand, n int) []api.Touch {
	var l []api.Touch
	for range r.Intn(n + 1) {
		l = append(l, api.Touch{Kind: 1 + r.Intn(3), Path: []string{"/a", "/b", "/c", "/d/e", "\n", `\`}[r.Intn(6)]})
	}
	return l
}

// same tells whether two Metas tell the same.
func same(a, b Meta) bool {
	return slices.Equal(a.Commands, b.Commands) && slices.Equal(a.Touches, b.Touches)
}

// TestParseModel holds texts against the model.
func TestParseModel(t *testing.T) {
	r := rand.New(rand.NewSource(1))
	faults := 0
	for range 200000 {
		s := strings.Join(some(r, 12, "C ", "R ", "W ", "D ", "C", "X", " ", "\n", "\n", "\n", `\n`, `\\`, `\`, "a", "\nR /a", "\nC x\n"), "")
		got, f := Parse(s)
		want, at := modelParse(s)
		if !same(got, want) || f.At != at || (f.Why == api.ErrForm) != (at > 0) {
			t.Fatalf("Parse of %q: %v, %v; not %v, %d", s, got, f, want, at)
		}
		if at > 0 {
			faults++
			continue
		}
		// What is parsed is what is written, too: a Meta has one text.
		if back, e := Write(got); e != api.OK || back != s {
			t.Fatalf("%q is written as %q, %d", s, back, e)
		}
	}
	if faults == 0 || faults == 200000 {
		t.Errorf("%d faults", faults)
	}
}

// TestWriteModel is P18.5: what is written is parsed.
func TestWriteModel(t *testing.T) {
	r := rand.New(rand.NewSource(2))
	for range 100000 {
		var m Meta
		for range r.Intn(4) {
			m.Commands = append(m.Commands, strings.Join(some(r, 5, "a", " ", "\n", `\`, "n", "C ", "\nR x\n", "\xff", "\x00"), ""))
		}
		m.Touches = anyTouches(r, 5)
		s, e := Write(m)
		got, f := Parse(s)
		if e != api.OK || f != (api.Fault{}) || !same(got, m) {
			t.Fatalf("%v is written as %q, %d, and read as %v, %v", m, s, e, got, f)
		}
		if strings.Count(s, "\n") != len(m.Commands)+len(m.Touches) {
			t.Fatalf("%v: %q has not a line each", m, s)
		}
	}
}

// TestSeenModel holds touches against the model.
func TestSeenModel(t *testing.T) {
	r := rand.New(rand.NewSource(3))
	for range 100000 {
		l := anyTouches(r, 12)
		if r.Intn(10) == 0 && len(l) > 0 {
			l[r.Intn(len(l))].Kind = r.Intn(6) - 1
		}
		if got, want := Seen(l), modelSeen(l); !slices.Equal(got, want) {
			t.Fatalf("Seen of %v: %v, not %v", l, got, want)
		}
	}
}

// anyStore is a store with some of the files, and the table of their times.
func anyStore(r *rand.Rand) (*vfs.Store, map[string]int) {
	s, _ := vfs.New(1000)
	s.Mkdir("d")
	times := map[string]int{"/": 0, "/d": 1}
	for range r.Intn(8) {
		p := []string{"/t", "/a", "/b", "/c", "/d/e"}[r.Intn(5)]
		if r.Intn(4) > 0 {
			s.Touch(p)
			times[p] = s.Clock()
		} else {
			s.Remove(p)
			delete(times, p)
		}
	}
	return s, times
}

// TestWhyModel holds nodes against the model.
func TestWhyModel(t *testing.T) {
	r := rand.New(rand.NewSource(4))
	names := []string{"t", "a", "b", "c", "d", "d/e", "/a", "z"}
	var met [6]int
	for range 100000 {
		s, times := anyStore(r)
		n := graph.Node{Name: names[r.Intn(len(names))], Kind: r.Intn(4), Phony: r.Intn(6) == 0}
		n.Sources, n.Commands = some(r, 3, names...), some(r, 2, "x", "")
		made := some(r, 2, names...)
		want := modelWhy(n, times, made)
		if got := Why(n, s, made); got != want {
			t.Fatalf("Why of %v, with %v, %q made: %d, not %d", n, times, made, got, want)
		}
		if got, want := Newer(n, s, made), modelNewer(n, times, made); !slices.Equal(got, want) {
			t.Fatalf("Newer of %v, with %v, %q made: %q, not %q", n, times, made, got, want)
		}
		met[want]++
	}
	if slices.Index(met[2:], 0) >= 0 || met[0] == 0 || met[1] > 0 {
		t.Errorf("the reasons were met %v times", met)
	}
}

// TestMadeModel is P18.6: whatever a node's sources are, behind its making it is
// not to be made again.
func TestMadeModel(t *testing.T) {
	r := rand.New(rand.NewSource(5))
	for range 20000 {
		s, _ := anyStore(r)
		n := graph.Node{Name: "made", Kind: []int{0, api.Single, api.Double}[r.Intn(3)], Commands: []string{"x"}}
		n.Sources = some(r, 4, "a", "b", "c", "d/e", "d")
		if n.Kind == api.Double && len(n.Sources) == 0 {
			continue
		}
		for _, p := range n.Sources {
			s.Touch(p)
		}
		s.Touch("made")
		s.Touch("other")
		if got := Why(n, s, []string{"other"}); got != 0 {
			t.Fatalf("%v is to be made again: %d", n, got)
		}
	}
}

// TestChangedModel holds runs against the model: what is changed is other
// commands, or a file of modelSeen.
func TestChangedModel(t *testing.T) {
	r := rand.New(rand.NewSource(6))
	changed := 0
	for range 100000 {
		s, times := anyStore(r)
		m := Meta{Commands: some(r, 2, "x", "y"), Touches: anyTouches(r, 4)}
		now, at := m.Commands, r.Intn(10)
		if r.Intn(4) == 0 {
			now = some(r, 2, "x", "y")
		}
		want := strings.Join(now, "\n") != strings.Join(m.Commands, "\n") || len(now) != len(m.Commands)
		for _, x := range modelSeen(m.Touches) {
			time, there := times[x.Path]
			want = want || !there || x.Kind == api.Read && time > at
		}
		if got := Changed(m, now, at, s); got != want {
			t.Fatalf("%v, with %q at %d, of %v: %v", m, now, at, times, got)
		}
		if want {
			changed++
		}
	}
	if changed == 0 || changed == 100000 {
		t.Errorf("%d changed", changed)
	}
}

// TestFileModel is P18.7: two names have two files, in one directory.
func TestFileModel(t *testing.T) {
	r := rand.New(rand.NewSource(7))
	files := map[string]string{}
	for range 100000 {
		name := strings.Join(some(r, 6, "%", "s", "/", "a", ".", "..", ".meta", "%s", "\n"), "")
		f := File(name)
		if other, known := files[f]; known && other != name {
			t.Fatalf("%q and %q have the file %q", name, other, f)
		}
		files[f] = name
		want := "/meta/" + strings.ReplaceAll(strings.ReplaceAll(name, "%", "%%"), "/", "%s") + ".meta"
		if f != want || path.Clean(f) != f || path.Dir(f) != "/meta" {
			t.Fatalf("%q has the file %q, not %q", name, f, want)
		}
	}
}
