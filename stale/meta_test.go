package stale

import (
	"reflect"
	"slices"
	"strings"
	"testing"

	"bobstay/api"
)

// TestWrite is P18.2's text.
func TestWrite(t *testing.T) {
	for _, c := range []struct {
		m    Meta
		want string
	}{
		{Meta{}, ""},
		{Meta{Commands: []string{"cp a t"}}, "C cp a t\n"},
		{Meta{Commands: []string{"x", ""}}, "C x\nC \n"},
		{Meta{Touches: []api.Touch{{Kind: api.Read, Path: "/a"}, {Kind: api.Wrote, Path: "/t"}, {Kind: api.Erased, Path: "/x"}}}, "R /a\nW /t\nD /x\n"},
		{Meta{Commands: []string{"x"}, Touches: []api.Touch{{Kind: api.Erased, Path: ""}}}, "C x\nD \n"},
		{Meta{Commands: []string{"a\nb", `a\nb`, "\\\n", `\`}}, "C a\\nb\nC a\\\\nb\nC \\\\\\n\nC \\\\\n"},
		{Meta{Commands: []string{" x\t"}, Touches: []api.Touch{{Kind: api.Read, Path: "\xff\n"}}}, "C  x\t\nR \xff\\n\n"},
	} {
		got, e := Write(c.m)
		if e != api.OK || got != c.want {
			t.Errorf("Write of %v: %q, %d; not %q", c.m, got, e, c.want)
		}
		back, f := Parse(c.want)
		if f != (api.Fault{}) || !slices.Equal(back.Commands, c.m.Commands) || !slices.Equal(back.Touches, c.m.Touches) {
			t.Errorf("Parse of %q: %v, %v", c.want, back, f)
		}
	}
}

// TestWriteRefused is P18.2's errors, the first one named first.
func TestWriteRefused(t *testing.T) {
	long := strings.Repeat("x", api.MaxText)
	just := long[:api.MaxText-3]
	for _, c := range []struct {
		name string
		m    Meta
		want api.Errno
	}{
		{"kind 0", Meta{Touches: []api.Touch{{Path: "a"}}}, api.ErrForm},
		{"kind 4", Meta{Touches: []api.Touch{{Kind: 4, Path: "a"}}}, api.ErrForm},
		{"kind -1", Meta{Touches: []api.Touch{{Kind: -1, Path: "a"}}}, api.ErrForm},
		{"the last one of no kind", Meta{Touches: []api.Touch{{Kind: 1}, {Kind: 2}, {Kind: 3}, {Kind: 256}}}, api.ErrForm},
		{"of no kind, and too long", Meta{Commands: []string{long}, Touches: []api.Touch{{Kind: 9}}}, api.ErrForm},
		{"too long", Meta{Commands: []string{long}}, api.ErrMany},
		{"one byte too long", Meta{Commands: []string{just + "x"}}, api.ErrMany},
		{"too long by its path", Meta{Touches: []api.Touch{{Kind: api.Read, Path: just + "x"}}}, api.ErrMany},
		{"too long by all of it", Meta{Commands: []string{long[:api.MaxText-7], "", ""}}, api.ErrMany},
		{"too long by what stands for its bytes", Meta{Commands: []string{strings.Repeat("\n", api.MaxText/2)}}, api.ErrMany},
		{"just not too long", Meta{Commands: []string{just}}, api.OK},
		{"just not too long, of bytes that two stand for", Meta{Commands: []string{strings.Repeat(`\`, api.MaxText/2-2) + "x"}}, api.OK},
	} {
		got, e := Write(c.m)
		if e != c.want || e != api.OK && got != "" || e == api.OK && len(got) != api.MaxText {
			t.Errorf("%s: error %d, %d bytes", c.name, e, len(got))
		}
	}
}

// TestParse is P18.2's faults: the first line that may not stand there.
func TestParse(t *testing.T) {
	long := strings.Repeat("C x\n", api.MaxText/4)
	for _, c := range []struct {
		s    string
		want api.Fault
	}{
		{"", api.Fault{}},
		{"C \n", api.Fault{}},
		{"C x\nR a\nD b\nW c\n", api.Fault{}},
		{"R a\nR a\n", api.Fault{}},
		{"C x", api.Fault{Why: api.ErrForm, At: 1}},
		{"C x\nR a", api.Fault{Why: api.ErrForm, At: 2}},
		{"\n", api.Fault{Why: api.ErrForm, At: 1}},
		{"C x\n\nR a\n", api.Fault{Why: api.ErrForm, At: 2}},
		{"C\n", api.Fault{Why: api.ErrForm, At: 1}},
		{"C", api.Fault{Why: api.ErrForm, At: 1}},
		{"Cx\n", api.Fault{Why: api.ErrForm, At: 1}},
		{"C x\nX a\n", api.Fault{Why: api.ErrForm, At: 2}},
		{"c x\n", api.Fault{Why: api.ErrForm, At: 1}},
		{" C x\n", api.Fault{Why: api.ErrForm, At: 1}},
		{"E x\n", api.Fault{Why: api.ErrForm, At: 1}},
		{"R a\nC x\n", api.Fault{Why: api.ErrForm, At: 2}},
		{"C x\nD a\nW b\nC y\nX\n", api.Fault{Why: api.ErrForm, At: 4}},
		{"R a\nX\nC x\n", api.Fault{Why: api.ErrForm, At: 2}},
		{"C \\\n", api.Fault{Why: api.ErrForm, At: 1}},
		{"C \\x\n", api.Fault{Why: api.ErrForm, At: 1}},
		{"C \\\\\\\n", api.Fault{Why: api.ErrForm, At: 1}},
		{"C x\nR \\N\n", api.Fault{Why: api.ErrForm, At: 2}},
		{"R a\r\n", api.Fault{}},
		{long, api.Fault{}},
		{long + "C", api.Fault{Why: api.ErrMany}},
		{long + "C x\n", api.Fault{Why: api.ErrMany}},
		{"X" + long, api.Fault{Why: api.ErrMany}},
		{"X" + long[1:], api.Fault{Why: api.ErrForm, At: 1}},
	} {
		m, f := Parse(c.s)
		if f != c.want || f.Why != api.OK && (m.Commands != nil || m.Touches != nil) {
			t.Errorf("Parse of %.20q: %v, not %v", c.s, f, c.want)
		}
	}
	m, _ := Parse("C a\\\\n\\n\nR /x\nW /\\\\\nD \n")
	want := Meta{Commands: []string{"a\\n\n"}, Touches: []api.Touch{{Kind: 1, Path: "/x"}, {Kind: 2, Path: `/\`}, {Kind: 3}}}
	if !reflect.DeepEqual(m, want) {
		t.Errorf("%v, not %v", m, want)
	}
}

// touches are touches of a short text: a letter for the kind, and a path, each.
func touches(s string) []api.Touch {
	var l []api.Touch
	for _, w := range strings.Fields(s) {
		l = append(l, api.Touch{Kind: strings.IndexByte(letters, w[0]), Path: w[1:]})
	}
	return l
}

// TestSeen is P18.3.
func TestSeen(t *testing.T) {
	for _, c := range [][2]string{
		{"", ""},
		{"Ra", "Ra"},
		{"Wa", "Wa"},
		{"Da", ""},
		{"Ra Ra", "Ra"},
		{"Wa Wa", "Wa"},
		{"Ra Wa", "Ra Wa"},
		{"Wa Ra", "Wa"},
		{"Wa Da", ""},
		{"Wa Da Ra", ""},
		{"Da Wa", "Wa"},
		{"Da Ra", ""},
		{"Ra Da", "Ra"},
		{"Ra Wa Da", "Ra"},
		{"Ra Da Wa Ra", "Ra Wa"},
		{"Rb Ra Wb Wa Rc", "Rb Wb Ra Wa Rc"},
		{"Da Rb Wa", "Wa Rb"},
		{"Wc Ra Wb Dc Wc", "Wc Ra Wb"},
		{"R", "R"},
		{"R/a Wa", "R/a Wa"},
	} {
		if got := Seen(touches(c[0])); !slices.Equal(got, touches(c[1])) {
			t.Errorf("Seen of %q: %v, not %q", c[0], got, c[1])
		}
	}
	odd := []api.Touch{{Kind: 0, Path: "a"}, {Kind: 1, Path: "a"}, {Kind: 1, Path: "b"}, {Kind: 2, Path: "b"}, {Kind: 7, Path: "b"}}
	if got := Seen(odd); !slices.Equal(got, touches("Rb")) {
		t.Errorf("Seen of %v: %v", odd, got)
	}
}
