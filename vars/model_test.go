package vars

import (
	"math/rand"
	"slices"
	"strconv"
	"strings"
	"testing"

	"bobstay/api"
)

// line is one value that the model knows.
type line struct {
	scope       int
	name, value string
}

// model is a list of values, gone through from its beginning to its end: the
// set, told another way.
type model []line

// find is where a name stands in a scope: -1, if it does not.
func (m model) find(scope int, name string) int {
	return slices.IndexFunc(m, func(l line) bool { return l.scope == scope && l.name == name })
}

func (m model) in(scope int, name string) (string, bool) {
	if i := m.find(scope, name); i >= 0 {
		return m[i].value, true
	}
	return "", false
}

// get looks for the least scope that has the name.
func (m model) get(name string) (string, bool) {
	best := line{scope: 5}
	for _, l := range m {
		if l.name == name && l.scope < best.scope {
			best = l
		}
	}
	return best.value, best.scope < 5
}

func (m model) names(scope int) []string {
	var names []string
	for _, l := range m {
		if l.scope == scope {
			names = append(names, l.name)
		}
	}
	slices.Sort(names)
	return names
}

// give is what Put, Add and Default come to.
func (m *model) give(kind string, scope int, name, value string) api.Errno {
	if scope < 1 || scope > 4 || len(name) == 0 || len(name) > 64 || strings.ContainsAny(name, " \t\n$:={}()#") {
		return api.ErrArg
	}
	if _, there := m.get(name); there && kind == "Default" {
		return api.OK
	}
	at := m.find(scope, name)
	if at >= 0 && kind == "Add" {
		value = strings.Join([]string{(*m)[at].value, value}, " ")
	}
	if len(value) > 65536 || at < 0 && len(m.names(scope)) == 1024 {
		return api.ErrMany
	}
	if at < 0 {
		*m = append(*m, line{scope, name, value})
	} else {
		(*m)[at].value = value
	}
	return api.OK
}

func (m *model) drop(scope int, name string) api.Errno {
	at := m.find(scope, name)
	switch {
	case scope < 1 || scope > 4:
		return api.ErrArg
	case at < 0:
		return api.ErrNone
	}
	*m = slices.Delete(slices.Clone(*m), at, at+1)
	return api.OK
}

func (m *model) clear(scope int) int {
	gone := len(m.names(scope))
	*m = slices.DeleteFunc(slices.Clone(*m), func(l line) bool { return l.scope == scope })
	return gone
}

var modelNames = []string{"A", "B", "a", "CC", "@", ".x", "\xff", "a b", "", "x:y", strings.Repeat("n", 64), strings.Repeat("n", 65)}

// sameModel holds all of a set against the model.
func sameModel(t *testing.T, s *Set, m model) {
	t.Helper()
	for scope := -1; scope <= 6; scope++ {
		if got, want := s.Names(scope), m.names(scope); !slices.Equal(got, want) {
			t.Fatalf("Names(%d) = %q, want %q", scope, got, want)
		}
	}
	for _, name := range modelNames {
		got, ok := s.Get(name)
		want, there := m.get(name)
		if got != want || ok != there {
			t.Fatalf("Get(%q): %d bytes, %v, want %d, %v", name, len(got), ok, len(want), there)
		}
		for scope := -1; scope <= 6; scope++ {
			got, ok := s.In(scope, name)
			want, there := m.in(scope, name)
			if got != want || ok != there {
				t.Fatalf("In(%d, %q): %d bytes, %v, want %d, %v", scope, name, len(got), ok, len(want), there)
			}
		}
	}
}

func someScope(r *rand.Rand) int {
	if r.Intn(10) == 0 {
		return r.Intn(8) - 1
	}
	return 1 + r.Intn(4)
}

func someValue(r *rand.Rand) string {
	if r.Intn(8) == 0 {
		return full[:api.MaxText-r.Intn(4)] + strings.Repeat("v", r.Intn(4))
	}
	return strings.Repeat(string([]byte{byte(r.Intn(256))}), r.Intn(4))
}

// turnBoth makes one call of the set and of the model, and holds the answers
// against each other.
func turnBoth(t *testing.T, r *rand.Rand, s *Set, m *model) {
	t.Helper()
	scope, name, value := someScope(r), modelNames[r.Intn(len(modelNames))], someValue(r)
	switch kind := r.Intn(16); {
	case kind < 5:
		same(t, "Put", s.Put(scope, name, value), m.give("Put", scope, name, value))
	case kind < 9:
		same(t, "Add", s.Add(scope, name, value), m.give("Add", scope, name, value))
	case kind < 11:
		same(t, "Default", s.Default(scope, name, value), m.give("Default", scope, name, value))
	case kind < 15:
		same(t, "Drop", s.Drop(scope, name), m.drop(scope, name))
	default:
		same(t, "Clear", s.Clear(scope), m.clear(scope))
	}
}

// P7.1 to P7.5: calls in many orders, of sets and of copies of them, come to
// what a list of values comes to.
func TestAsList(t *testing.T) {
	for seed := range int64(40) {
		r := rand.New(rand.NewSource(seed))
		sets, models := []*Set{New()}, []model{nil}
		for range 200 {
			i := r.Intn(len(sets))
			if len(sets) < 4 && r.Intn(30) == 0 {
				sets, models = append(sets, sets[i].Copy()), append(models, slices.Clone(models[i]))
			}
			turnBoth(t, r, sets[i], &models[i])
			for j := range sets {
				sameModel(t, sets[j], models[j])
			}
			if t.Failed() {
				t.Fatal("with seed " + strconv.FormatInt(seed, 10))
			}
		}
	}
}
