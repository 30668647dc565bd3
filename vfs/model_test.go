package vfs

import (
	"math/rand"
	stdpath "path"
	"slices"
	"sort"
	"strings"
	"testing"

	"bobstay/api"
)

// leaf is a file or, with kids, a directory of a tree: the store, told another way.
type leaf struct {
	text string
	time int
	kids map[string]*leaf
}

// tree is what a store is held against.
type tree struct {
	root        *leaf
	room, clock int
	noting      bool
	notes       []api.Touch
}

func newTree(room int) *tree {
	return &tree{root: &leaf{kids: map[string]*leaf{}}, room: room}
}

// walk finds what is at a path, its directory, its name and whether it may be.
func (m *tree) walk(p string) (at, dir *leaf, whole string, ok bool) {
	whole = stdpath.Clean("/" + p)
	at, dir = m.root, m.root
	if whole == "/" {
		return at, dir, whole, true
	}
	for part := range strings.SplitSeq(whole[1:], "/") {
		if len(part) > 255 {
			return nil, nil, whole, false
		}
		dir = at
		at = nil
		if dir != nil && dir.kids != nil {
			at = dir.kids[part]
		}
	}
	return at, dir, whole, true
}

func (m *tree) each(do func(p string, l *leaf)) {
	var down func(p string, l *leaf)
	down = func(p string, l *leaf) {
		do(p, l)
		for name, kid := range l.kids {
			down(stdpath.Join(p, name), kid)
		}
	}
	down("/", m.root)
}

func (m *tree) used() (bytes, count int) {
	m.each(func(_ string, l *leaf) { bytes += len(l.text); count++ })
	return
}

func (m *tree) note(kind int, p string) {
	if m.noting && len(m.notes) < 4096 {
		m.notes = append(m.notes, api.Touch{Kind: kind, Path: p})
	}
}

func (m *tree) write(p string, turn func(old string) string) api.Errno {
	at, dir, whole, ok := m.walk(p)
	if !ok {
		return api.ErrArg
	}
	if dir == nil {
		return api.ErrNone
	}
	if dir.kids == nil || at != nil && at.kids != nil {
		return api.ErrDir
	}
	old := ""
	if at != nil {
		old = at.text
	}
	text := turn(old)
	if len(text) > 1<<16 {
		return api.ErrMany
	}
	bytes, count := m.used()
	if bytes-len(old)+len(text) > m.room || at == nil && count == 512 {
		return api.ErrFull
	}
	m.clock++
	dir.kids[stdpath.Base(whole)] = &leaf{text: text, time: m.clock}
	m.note(api.Wrote, whole)
	return 0
}

func (m *tree) touch(p string) api.Errno {
	if at, _, _, ok := m.walk(p); ok && at != nil && at.kids != nil {
		m.clock++
		at.time = m.clock
		return 0
	}
	return m.write(p, func(old string) string { return old })
}

func (m *tree) mkdir(p string) api.Errno {
	at, dir, whole, ok := m.walk(p)
	_, count := m.used()
	switch {
	case !ok:
		return api.ErrArg
	case at != nil:
		return api.ErrThere
	case dir == nil:
		return api.ErrNone
	case dir.kids == nil:
		return api.ErrDir
	case count == 512:
		return api.ErrFull
	}
	m.clock++
	dir.kids[stdpath.Base(whole)] = &leaf{time: m.clock, kids: map[string]*leaf{}}
	return 0
}

func (m *tree) remove(p string) api.Errno {
	at, dir, whole, ok := m.walk(p)
	switch {
	case !ok:
		return api.ErrArg
	case at == nil:
		return api.ErrNone
	case at == m.root || len(at.kids) > 0:
		return api.ErrFull
	}
	m.clock++
	delete(dir.kids, stdpath.Base(whole))
	if at.kids == nil {
		m.note(api.Erased, whole)
	}
	return 0
}

func (m *tree) move(from, to string) api.Errno {
	a, aDir, aWhole, aOK := m.walk(from)
	b, bDir, bWhole, bOK := m.walk(to)
	switch {
	case !aOK || !bOK:
		return api.ErrArg
	case a == nil || bDir == nil:
		return api.ErrNone
	case a.kids != nil || b != nil && b.kids != nil || bDir.kids == nil:
		return api.ErrDir
	}
	m.clock++
	if a == b {
		return 0
	}
	delete(aDir.kids, stdpath.Base(aWhole))
	bDir.kids[stdpath.Base(bWhole)] = &leaf{text: a.text, time: m.clock}
	m.note(api.Erased, aWhole)
	m.note(api.Wrote, bWhole)
	return 0
}

func (m *tree) read(p string) (string, api.Errno) {
	at, _, whole, ok := m.walk(p)
	switch {
	case !ok:
		return "", api.ErrArg
	case at == nil:
		return "", api.ErrNone
	case at.kids != nil:
		return "", api.ErrDir
	}
	m.note(api.Read, whole)
	return at.text, 0
}

func (m *tree) told(begin bool) []api.Touch {
	l := slices.Clone(m.notes)
	m.notes, m.noting = nil, begin
	return l
}

// sameTree holds all of a store against the tree.
func sameTree(t *testing.T, s *Store, m *tree) {
	t.Helper()
	bytes, count := m.used()
	same(t, "Used", s.Used(), bytes)
	same(t, "Clock", s.Clock(), m.clock)
	same(t, "entries", len(s.entries), count)
	sameList(t, "notes", s.notes, m.notes...)
	var files []string
	m.each(func(p string, l *leaf) {
		stands(t, s, p, l.time, l.kids != nil)
		if l.kids == nil {
			files = append(files, p)
			same(t, "text of "+p, s.entries[p].text, l.text)
			return
		}
		var names []string
		for name := range l.kids {
			names = append(names, name)
		}
		sort.Strings(names)
		lists(t, s, p, names...)
	})
	sort.Strings(files)
	sameList(t, "All", s.All(), files...)
}

// somePath is a path of few names, told in one of several ways.
func somePath(r *rand.Rand) string {
	if r.Intn(60) == 0 {
		return long
	}
	parts := []string{"a", "b", "c", "a", "b", "c", "a.c", "..", ".", "", "\xff", long[1:]}
	p := ""
	if r.Intn(2) == 0 {
		p = "/"
	}
	for i := range 1 + r.Intn(4) {
		if i > 0 {
			p += "/"
		}
		p += parts[r.Intn(len(parts))]
	}
	return p
}

// turnBoth makes one call of the store and of the tree, and holds the answers against each other.
func turnBoth(t *testing.T, r *rand.Rand, s *Store, m *tree) {
	t.Helper()
	p, q := somePath(r), somePath(r)
	text := strings.Repeat(string([]byte{byte(r.Intn(256))}), r.Intn(12))
	switch r.Intn(10) {
	case 0, 1:
		same(t, "Write "+p, s.Write(p, text), m.write(p, func(string) string { return text }))
	case 2:
		same(t, "Append "+p, s.Append(p, text), m.write(p, func(old string) string { return old + text }))
	case 3:
		same(t, "Touch "+p, s.Touch(p), m.touch(p))
	case 4, 5:
		same(t, "Mkdir "+p, s.Mkdir(p), m.mkdir(p))
	case 6:
		same(t, "Remove "+p, s.Remove(p), m.remove(p))
	case 7:
		same(t, "Move "+p+" "+q, s.Move(p, q), m.move(p, q))
	case 8:
		got, e := s.Read(p)
		want, f := m.read(p)
		same(t, "Read "+p, got, want)
		same(t, "Read "+p, e, f)
	default:
		if r.Intn(3) > 0 {
			n := r.Intn(5) - 1
			s.Later(n)
			m.clock += max(n, 0)
			return
		}
		begin := r.Intn(2) == 0
		sameList(t, "Notes", s.Notes(begin), m.told(begin)...)
	}
}

// P3.1 to P3.5, P3.7: calls in many orders come to what a tree of files comes to.
func TestAsTree(t *testing.T) {
	for seed := range int64(60) {
		r := rand.New(rand.NewSource(seed))
		room := r.Intn(80)
		s, m := empty(t, room), newTree(room)
		for range 250 {
			turnBoth(t, r, s, m)
			sameTree(t, s, m)
			if t.Failed() {
				t.Fatalf("with seed %d", seed)
			}
		}
	}
}

// P3.6: the clock never goes back, and a file that is written is younger than all others.
func TestClockAndAges(t *testing.T) {
	r := rand.New(rand.NewSource(6))
	s := empty(t, 1000)
	s.Mkdir("a")
	for range 3000 {
		ahead := s.Clock()
		p, q := somePath(r), somePath(r)
		written := q
		var e api.Errno
		switch r.Intn(6) {
		case 0:
			written, e = p, s.Write(p, "x")
		case 1:
			written, e = p, s.Append(p, "x")
		case 2:
			written, e = p, s.Touch(p)
		case 3:
			if e = s.Move(p, q); stdpath.Clean("/"+p) == stdpath.Clean("/"+q) {
				written = "/"
			}
		case 4:
			written, e = "/", s.Remove(p)
		default:
			written, e = p, s.Mkdir(p)
		}
		if e != api.OK {
			same(t, "Clock behind a call that is refused", s.Clock(), ahead)
			continue
		}
		same(t, "Clock", s.Clock(), ahead+1)
		if written == "/" {
			continue
		}
		if time, _, _ := s.Stat(written); time != ahead+1 {
			t.Fatalf("%q has the time %d behind a call at %d", written, time, ahead)
		}
		for _, other := range s.All() {
			if time, _, _ := s.Stat(other); time > ahead && other != stdpath.Clean("/"+written) {
				t.Fatalf("%q, of %d, is as young as %q", other, time, written)
			}
		}
	}
}
