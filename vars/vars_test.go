package vars

import (
	"math"
	"slices"
	"strconv"
	"strings"
	"testing"

	"bobstay/api"
)

var (
	scopes   = []int{Local, Command, Global, Env}
	noScopes = []int{0, -1, 5, 6, 8, -4, 256, 1 << 32, 1<<32 + 1, math.MinInt, math.MaxInt}
	noNames  = []string{"", strings.Repeat("n", 65), strings.Repeat("n", 1<<17), "a b", "a\tb", "a\nb", "$", "a$b", "a:b", "a=b",
		"a{b", "a}b", "a(b", "a)b", "a#b", " ", "\t", "\n", ":", "=", "{", "}", "(", ")", "#", " a", "a ", "#a", "a#", "${a}",
		strings.Repeat("n", 63) + "#", "\xff$", "é:"}
)

// full is a value of as many bytes as may be.
var full = strings.Repeat("v", api.MaxText)

func same[T comparable](t *testing.T, what string, got, want T) {
	t.Helper()
	if got != want {
		t.Errorf("%s: got %v, want %v", what, got, want)
	}
}

func fine(t *testing.T, errors ...api.Errno) {
	t.Helper()
	for i, e := range errors {
		if e != api.OK {
			t.Fatalf("call %d is refused: %v", i, e)
		}
	}
}

// means holds a name to its value.
func means(t *testing.T, s *Set, name, want string) {
	t.Helper()
	if got, ok := s.Get(name); got != want || !ok {
		t.Errorf("Get(%q) = %q, %v, want %q", name, got, ok, want)
	}
}

// isIn holds a name to its value in a scope.
func isIn(t *testing.T, s *Set, scope int, name, want string) {
	t.Helper()
	if got, ok := s.In(scope, name); got != want || !ok {
		t.Errorf("In(%d, %q) = %q, %v, want %q", scope, name, got, ok, want)
	}
}

// isNone fails, if a name has a value.
func isNone(t *testing.T, s *Set, name string) {
	t.Helper()
	if got, ok := s.Get(name); got != "" || ok {
		t.Errorf("Get(%q) = %q, %v, want none", name, got, ok)
	}
}

// isNotIn fails, if a name has a value in a scope.
func isNotIn(t *testing.T, s *Set, scope int, name string) {
	t.Helper()
	if got, ok := s.In(scope, name); got != "" || ok {
		t.Errorf("In(%d, %q) = %q, %v, want none", scope, name, got, ok)
	}
}

func named(t *testing.T, s *Set, scope int, want ...string) {
	t.Helper()
	if got := s.Names(scope); !slices.Equal(got, want) {
		t.Errorf("Names(%d) = %q, want %q", scope, got, want)
	}
}

// dump tells all of a scope that a call can tell.
func dump(s *Set, scope int) string {
	var b strings.Builder
	for _, name := range s.Names(scope) {
		value, ok := s.In(scope, name)
		b.WriteString(strconv.Quote(name) + strconv.FormatBool(ok) + strconv.Quote(value) + "\n")
	}
	return b.String()
}

// whole tells all of a set.
func whole(s *Set) string {
	var b strings.Builder
	for _, scope := range scopes {
		b.WriteString(strconv.Itoa(scope) + "\n" + dump(s, scope))
	}
	return b.String()
}

// refused holds a call to its error, and to turning nothing.
func refused(t *testing.T, s *Set, what string, want api.Errno, call func() api.Errno) {
	t.Helper()
	ahead := whole(s)
	same(t, what, call(), want)
	if behind := whole(s); behind != ahead {
		t.Errorf("%s was refused, but turned %d bytes into %d", what, len(ahead), len(behind))
	}
}

// filled is a set in which one scope has as many names as may be.
func filled(t *testing.T, scope int) *Set {
	t.Helper()
	s := New()
	for i := range 1024 {
		fine(t, s.Put(scope, "n"+strconv.Itoa(i), "v"+strconv.Itoa(i)))
	}
	return s
}

// givers are the calls that give a name a value.
func givers(s *Set) map[string]func(scope int, name, value string) api.Errno {
	return map[string]func(scope int, name, value string) api.Errno{"Put": s.Put, "Add": s.Add, "Default": s.Default}
}

func TestExample(t *testing.T) {
	s := New()
	fine(t, s.Put(Global, "CC", "gcc"), s.Put(Command, "CC", "cc"))
	means(t, s, "CC", "cc")
	fine(t, s.Drop(Command, "CC"))
	means(t, s, "CC", "gcc")
}

// The scopes' numbers are what the document says.
func TestScopes(t *testing.T) {
	if !slices.Equal(scopes, []int{1, 2, 3, 4}) {
		t.Error(scopes)
	}
}

// P7.1: which bytes may stand in a name, at each of its places.
func TestRightBytes(t *testing.T) {
	for c := range 256 {
		b := string([]byte{byte(c)})
		want := !strings.Contains("\x20\x09\x0a$:={}()#", b)
		for _, name := range []string{b, b + "x", "x" + b, "x" + b + "x", "\xff" + b, b + "é", strings.Repeat("x", 63) + b, b + strings.Repeat("x", 63)} {
			same(t, "Right of "+strconv.Quote(name), Right(name), want)
		}
	}
}

// P7.1: how many bytes a name may have; it is bytes that count, not runes.
func TestRightLength(t *testing.T) {
	for length := range 200 {
		same(t, "Right of "+strconv.Itoa(length)+" bytes", Right(strings.Repeat("n", length)), length >= 1 && length <= 64)
	}
	same(t, "Right of 32 runes", Right(strings.Repeat("é", 32)), true)
	same(t, "Right of 33 runes", Right(strings.Repeat("é", 33)), false)
	same(t, "Right of very many bytes", Right(strings.Repeat("n", 1<<20)), false)
	for _, name := range []string{".TARGET", "@", "<", ">", "*", "!", "?", "%", "CC", "a.b/c-d_e", "+", "1", "\\", "\"", "'", ";", "[", "]", "&", "|", "\x00", "\r", "\v"} {
		same(t, "Right of "+strconv.Quote(name), Right(name), true)
	}
	for _, name := range noNames {
		same(t, "Right of "+strconv.Quote(name[:min(len(name), 70)]), Right(name), false)
	}
}

// P7.1: Put.
func TestPut(t *testing.T) {
	for _, scope := range scopes {
		s := New()
		isNone(t, s, "A")
		fine(t, s.Put(scope, "A", "x"))
		means(t, s, "A", "x")
		isIn(t, s, scope, "A", "x")
		fine(t, s.Put(scope, "A", "y z"))
		means(t, s, "A", "y z")
		fine(t, s.Put(scope, "A", ""))
		means(t, s, "A", "")
		isIn(t, s, scope, "A", "")
		isNone(t, s, "a")
		named(t, s, scope, "A")
	}
}

// P7.1: a value may be any text.
func TestValues(t *testing.T) {
	s := New()
	for _, value := range []string{"", " ", "  a  ", "\t", "\n", "${A}", "a=b:c#d", "\x00", "\xff\xfe", "é", full, full[1:]} {
		fine(t, s.Put(Global, "A", value))
		means(t, s, "A", value)
		fine(t, s.Drop(Global, "A"), s.Add(Global, "A", value))
		means(t, s, "A", value)
		fine(t, s.Drop(Global, "A"), s.Default(Global, "A", value))
		means(t, s, "A", value)
	}
}

// P7.1: Add.
func TestAdd(t *testing.T) {
	for _, scope := range scopes {
		s := New()
		fine(t, s.Add(scope, "A", "x"))
		means(t, s, "A", "x")
		fine(t, s.Add(scope, "A", "y"))
		means(t, s, "A", "x y")
		fine(t, s.Add(scope, "A", ""))
		means(t, s, "A", "x y ")
		fine(t, s.Add(scope, "A", " z "))
		means(t, s, "A", "x y   z ")
		fine(t, s.Add(scope, "B", ""))
		means(t, s, "B", "")
		// An empty value is one, too, behind which a blank stands.
		fine(t, s.Add(scope, "B", "x"))
		means(t, s, "B", " x")
		fine(t, s.Drop(scope, "A"), s.Add(scope, "A", "w"))
		means(t, s, "A", "w")
	}
}

// P7.1: Add takes the value in its scope, whichever is seen.
func TestAddInScope(t *testing.T) {
	for _, scope := range scopes {
		s := New()
		for _, other := range scopes {
			if other != scope {
				fine(t, s.Put(other, "A", "o"))
			}
		}
		fine(t, s.Add(scope, "A", "x"))
		isIn(t, s, scope, "A", "x")
		fine(t, s.Add(scope, "A", "y"))
		isIn(t, s, scope, "A", "x y")
	}
}

// P7.1: Default asks all scopes.
func TestDefault(t *testing.T) {
	for _, scope := range scopes {
		s := New()
		fine(t, s.Default(scope, "A", "x"))
		isIn(t, s, scope, "A", "x")
		for _, other := range scopes {
			ahead := whole(s)
			fine(t, s.Default(other, "A", "y"))
			same(t, "Default of a name that is there", whole(s), ahead)
		}
		fine(t, s.Put(scope, "A", ""), s.Default(scope, "A", "y"))
		isIn(t, s, scope, "A", "")
		fine(t, s.Drop(scope, "A"), s.Default(scope, "A", "y"))
		isIn(t, s, scope, "A", "y")
	}
}

// P7.1: of a name that is there Default asks for scope and name alone.
func TestDefaultAsksNoMore(t *testing.T) {
	for _, at := range scopes {
		for _, scope := range scopes {
			s := filled(t, scope)
			fine(t, s.Drop(scope, "n0"), s.Put(at, "A", "x"))
			if at != scope {
				fine(t, s.Put(scope, "n0", ""))
			}
			ahead := whole(s)
			fine(t, s.Default(scope, "A", full+"v"), s.Default(scope, "A", "y"))
			same(t, "Default of a name that is there", whole(s), ahead)
			for _, none := range noScopes {
				refused(t, s, "Default of no scope", api.ErrArg, func() api.Errno { return s.Default(none, "A", "y") })
			}
		}
	}
}

// P7.1, P7.5: scopes and names that are none.
func TestArgs(t *testing.T) {
	s := New()
	for _, scope := range scopes {
		fine(t, s.Put(scope, "A", "x"))
	}
	for what, give := range givers(s) {
		for _, scope := range noScopes {
			refused(t, s, what+" of no scope", api.ErrArg, func() api.Errno { return give(scope, "A", "y") })
			refused(t, s, what+" of no scope", api.ErrArg, func() api.Errno { return give(scope, "B", "y") })
			refused(t, s, what+" of neither", api.ErrArg, func() api.Errno { return give(scope, "a b", "y") })
			refused(t, s, what+" of no scope, too long", api.ErrArg, func() api.Errno { return give(scope, "A", full+"v") })
		}
		for _, name := range noNames {
			for _, scope := range scopes {
				refused(t, s, what+" of no name", api.ErrArg, func() api.Errno { return give(scope, name, "y") })
				refused(t, s, what+" of no name, too long", api.ErrArg, func() api.Errno { return give(scope, name, full+"v") })
			}
		}
	}
}

// P7.1, P7.5: how long a value may be.
func TestLongValues(t *testing.T) {
	for _, scope := range scopes {
		s := New()
		fine(t, s.Put(scope, "A", "x"))
		for what, give := range givers(s) {
			for _, value := range []string{full + "v", full + full} {
				refused(t, s, what+" of too much", api.ErrMany, func() api.Errno { return give(scope, "B", value) })
			}
			fine(t, give(scope, "B", full))
			isIn(t, s, scope, "B", full)
			fine(t, s.Drop(scope, "B"))
		}
		refused(t, s, "Put of too much", api.ErrMany, func() api.Errno { return s.Put(scope, "A", full+"v") })
		refused(t, s, "Add of too much", api.ErrMany, func() api.Errno { return s.Add(scope, "A", full[1:]) })
		refused(t, s, "Add of too much", api.ErrMany, func() api.Errno { return s.Add(scope, "A", full+full) })
		fine(t, s.Add(scope, "A", full[2:]))
		isIn(t, s, scope, "A", "x "+full[2:])
		refused(t, s, "Add of a blank to what is full", api.ErrMany, func() api.Errno { return s.Add(scope, "A", "") })
		fine(t, s.Put(scope, "A", full[1:]), s.Add(scope, "A", ""))
		isIn(t, s, scope, "A", full[1:]+" ")
	}
}

// P7.1, P7.5: how many names a scope may have.
func TestManyNames(t *testing.T) {
	for _, scope := range scopes {
		s := filled(t, scope)
		same(t, "names", len(s.Names(scope)), 1024)
		for what, give := range givers(s) {
			refused(t, s, what+" of one more", api.ErrMany, func() api.Errno { return give(scope, "more", "x") })
			refused(t, s, what+" of one more, empty", api.ErrMany, func() api.Errno { return give(scope, "more", "") })
			refused(t, s, what+" of one more that is no name", api.ErrArg, func() api.Errno { return give(scope, "mo re", "") })
		}
		fine(t, s.Put(scope, "n3", "y"), s.Add(scope, "n3", "z"), s.Default(scope, "n3", "w"))
		isIn(t, s, scope, "n3", "y z")
		for _, other := range scopes {
			if other != scope {
				fine(t, s.Put(other, "more", "x"))
				same(t, "names beside", s.Clear(other), 1)
			}
		}
		for what, give := range givers(s) {
			fine(t, s.Drop(scope, "n3"), give(scope, "more", "x"))
			refused(t, s, what+" of yet one more", api.ErrMany, func() api.Errno { return give(scope, "n3", "x") })
			fine(t, s.Drop(scope, "more"), give(scope, "n3", "x"))
		}
		s.Clear(scope)
		fine(t, s.Put(scope, "more", "x"))
		named(t, s, scope, "more")
	}
}

// P7.2: Get and In answer nothing, where there is nothing.
func TestNothingThere(t *testing.T) {
	s := New()
	fine(t, s.Put(Global, "A", "x"))
	for _, name := range append(slices.Clone(noNames), "B", "a", "AA", "A\x00") {
		isNone(t, s, name)
		for _, scope := range scopes {
			isNotIn(t, s, scope, name)
		}
	}
	for _, scope := range noScopes {
		isNotIn(t, s, scope, "A")
		named(t, s, scope)
		same(t, "Clear of no scope", s.Clear(scope), 0)
	}
	for _, scope := range []int{Local, Command, Env} {
		isNotIn(t, s, scope, "A")
		named(t, s, scope)
	}
	means(t, s, "A", "x")
}

// P7.2, P7.5: Drop.
func TestDrop(t *testing.T) {
	for _, scope := range scopes {
		s := New()
		for _, each := range scopes {
			fine(t, s.Put(each, "A", "x"), s.Put(each, "B", "y"))
		}
		fine(t, s.Drop(scope, "A"))
		isNotIn(t, s, scope, "A")
		isIn(t, s, scope, "B", "y")
		named(t, s, scope, "B")
		refused(t, s, "Drop of what is gone", api.ErrNone, func() api.Errno { return s.Drop(scope, "A") })
		for _, name := range append(slices.Clone(noNames), "C", "b", "BB") {
			refused(t, s, "Drop of nothing", api.ErrNone, func() api.Errno { return s.Drop(scope, name) })
		}
		for _, none := range noScopes {
			for _, name := range []string{"A", "B", "C", "a b", ""} {
				refused(t, s, "Drop of no scope", api.ErrArg, func() api.Errno { return s.Drop(none, name) })
			}
		}
		fine(t, s.Put(scope, "C", ""), s.Drop(scope, "C"))
		isNotIn(t, s, scope, "C")
	}
}

// P7.2: Clear.
func TestClear(t *testing.T) {
	for _, scope := range scopes {
		s := New()
		same(t, "Clear of nothing", s.Clear(scope), 0)
		for _, each := range scopes {
			fine(t, s.Put(each, "A", "x"), s.Put(each, "B", ""), s.Put(each, "C", "z"))
		}
		same(t, "Clear", s.Clear(scope), 3)
		named(t, s, scope)
		isNotIn(t, s, scope, "A")
		same(t, "Clear again", s.Clear(scope), 0)
		for _, each := range scopes {
			if each != scope {
				named(t, s, each, "A", "B", "C")
			}
		}
		fine(t, s.Put(scope, "A", "new"))
		named(t, s, scope, "A")
		isIn(t, s, scope, "A", "new")
		same(t, "Clear of one", s.Clear(scope), 1)
	}
	same(t, "Clear of many", filled(t, Env).Clear(Env), 1024)
}

// P7.2: Names rise byte by byte.
func TestNames(t *testing.T) {
	names := []string{"b", "a", "B", "ab", "a.c", "a-", "\xff", "\x00", "\x80z", "é", "10", "9", "~", "@", ".TARGET"}
	rising := slices.Sorted(slices.Values(names))
	for _, scope := range scopes {
		s := New()
		named(t, s, scope)
		for _, name := range names {
			fine(t, s.Put(scope, name, "x"), s.Add(scope, name, "y"))
		}
		named(t, s, scope, rising...)
	}
	many := filled(t, Local).Names(Local)
	same(t, "how many names", len(many), 1024)
	same(t, "the names rise", slices.IsSorted(many), true)
}

// R4: the names are the caller's.
func TestNamesAreOnesOwn(t *testing.T) {
	s := New()
	fine(t, s.Put(Global, "A", "x"), s.Put(Global, "B", "y"))
	got := s.Names(Global)
	got[0], got[1] = "z", "z"
	named(t, s, Global, "A", "B")
	means(t, s, "A", "x")
}

// P7.2: Copy.
func TestCopy(t *testing.T) {
	s := New()
	for _, scope := range scopes {
		fine(t, s.Put(scope, "A", "x"+strconv.Itoa(scope)), s.Put(scope, "B"+strconv.Itoa(scope), ""))
	}
	ahead := whole(s)
	c := s.Copy()
	if c == nil || c == s {
		t.Fatal("no copy")
	}
	same(t, "the copy", whole(c), ahead)
	for _, scope := range scopes {
		fine(t, c.Put(scope, "A", "y"), c.Put(scope, "C", "new"), c.Drop(scope, "B"+strconv.Itoa(scope)))
	}
	same(t, "the first one, when the copy turned", whole(s), ahead)
	behind := whole(c)
	for _, scope := range scopes {
		fine(t, s.Put(scope, "A", "z"), s.Add(scope, "D", "w"))
		same(t, "Clear", s.Clear(scope), 3)
	}
	same(t, "the copy, when the first one turned", whole(c), behind)
	again := c.Copy()
	same(t, "a copy of the copy", whole(again), behind)
	for _, scope := range scopes {
		same(t, "Clear", c.Clear(scope), 2)
	}
	same(t, "the copy of the copy", whole(again), behind)
}

// P7.2: a copy of an empty set, or scope, takes names.
func TestCopyOfEmpty(t *testing.T) {
	c := New().Copy()
	for _, scope := range scopes {
		named(t, c, scope)
		fine(t, c.Put(scope, "A", "x"))
	}
	c.Clear(Env)
	fine(t, c.Copy().Put(Env, "A", "x"))
	named(t, c, Env)
}

// P7.2: a copy has the bounds of the first one.
func TestCopyIsBounded(t *testing.T) {
	c := filled(t, Global).Copy()
	refused(t, c, "Put", api.ErrMany, func() api.Errno { return c.Put(Global, "more", "x") })
}

// P7.2: sets that New did not give.
func TestNoSet(t *testing.T) {
	for _, s := range []*Set{nil, {}, new(Set)} {
		for _, scope := range append(slices.Clone(scopes), noScopes...) {
			for _, name := range []string{"A", "", "a b"} {
				same(t, "Put", s.Put(scope, name, "x"), api.ErrNil)
				same(t, "Put", s.Put(scope, name, full+"v"), api.ErrNil)
				same(t, "Add", s.Add(scope, name, "x"), api.ErrNil)
				same(t, "Default", s.Default(scope, name, "x"), api.ErrNil)
				same(t, "Drop", s.Drop(scope, name), api.ErrNil)
				isNone(t, s, name)
				isNotIn(t, s, scope, name)
			}
			same(t, "Clear", s.Clear(scope), 0)
			named(t, s, scope)
		}
		if c := s.Copy(); c != nil {
			t.Error("a copy of no set")
		}
	}
}

// P7.2: each set that New gives lives by itself.
func TestNewApart(t *testing.T) {
	a, b := New(), New()
	fine(t, a.Put(Global, "A", "x"))
	isNone(t, b, "A")
}

// P7.3: of all scopes that have a name the first one is seen.
func TestHides(t *testing.T) {
	for has := range 1 << 4 {
		s := New()
		var left []int
		for i, scope := range scopes {
			if has&(1<<i) != 0 {
				fine(t, s.Put(scope, "A", strconv.Itoa(scope)))
				left = append(left, scope)
			}
		}
		for _, scope := range left {
			means(t, s, "A", strconv.Itoa(scope))
			fine(t, s.Drop(scope, "A"))
		}
		isNone(t, s, "A")
	}
}

// P7.3: it hides them in whichever order they are put, with an empty value,
// too, and till it is cleared.
func TestHidesTillCleared(t *testing.T) {
	for i, ahead := range scopes {
		for _, behind := range scopes[i+1:] {
			for _, firstAhead := range []bool{true, false} {
				s := New()
				if firstAhead {
					fine(t, s.Put(ahead, "A", ""), s.Put(behind, "A", "x"))
				} else {
					fine(t, s.Put(behind, "A", "x"), s.Put(ahead, "A", ""))
				}
				means(t, s, "A", "")
				fine(t, s.Add(behind, "A", "y"))
				means(t, s, "A", "")
				same(t, "Clear", s.Clear(ahead), 1)
				means(t, s, "A", "x y")
				fine(t, s.Put(ahead, "B", "other"))
				means(t, s, "A", "x y")
			}
		}
	}
}

// P7.4: what is put in one scope turns no other one.
func TestScopesApart(t *testing.T) {
	for _, scope := range scopes {
		s := New()
		for _, each := range scopes {
			fine(t, s.Put(each, "A", "x"+strconv.Itoa(each)))
		}
		turns := []func() api.Errno{
			func() api.Errno { return s.Put(scope, "A", "y") },
			func() api.Errno { return s.Put(scope, "B", "y") },
			func() api.Errno { return s.Add(scope, "A", "z") },
			func() api.Errno { return s.Add(scope, "C", "z") },
			func() api.Errno { return s.Default(scope, "D", "w") },
			func() api.Errno { return s.Default(scope, "A", "w") },
			func() api.Errno { return s.Drop(scope, "A") },
			func() api.Errno { s.Clear(scope); return api.OK },
		}
		for _, turn := range turns {
			fine(t, turn())
			for _, other := range scopes {
				if other != scope {
					same(t, "scope "+strconv.Itoa(other), dump(s, other), dumped("A", "x"+strconv.Itoa(other)))
				}
			}
		}
	}
}

// dumped is what dump tells of a scope with one name.
func dumped(name, value string) string {
	return strconv.Quote(name) + "true" + strconv.Quote(value) + "\n"
}
