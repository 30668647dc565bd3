package num

import (
	"math/big"
	"math/rand"
	"regexp"
	"slices"
	"strings"
	"testing"

	"bobstay/api"
)

var (
	shape = regexp.MustCompile(`\A([-+]?)(?:([0-9]+)|0[xX]([0-9a-fA-F]+))\z`)
	upper = new(big.Int).Lsh(big.NewInt(1), 62)
	lower = new(big.Int).Neg(upper)
)

// model is a text's number, found by numbers of any size.
func model(s string) (*big.Int, api.Errno) {
	m := shape.FindStringSubmatch(s)
	if m == nil {
		return nil, api.ErrForm
	}
	n, _ := new(big.Int).SetString("0"+m[2], 10)
	if m[3] != "" {
		n.SetString(m[3], 16)
	}
	if m[1] == "-" {
		n.Neg(n)
	}
	if !within(n) {
		return nil, api.ErrMany
	}
	return n, api.OK
}

func within(n *big.Int) bool { return n.Cmp(lower) >= 0 && n.Cmp(upper) <= 0 }

// near is a random number, often beside a bound.
func near(r *rand.Rand) int {
	switch r.Intn(4) {
	case 0:
		return r.Intn(41) - 20
	case 1:
		return 1<<62 + r.Intn(7) - 3
	case 2:
		return -1<<62 + r.Intn(7) - 3
	}
	return int(r.Uint64()) >> r.Intn(64)
}

// written is a random way to write a number, with noughts ahead.
func written(r *rand.Rand, n int) string {
	base, ahead := 10, ""
	if r.Intn(2) == 0 {
		base, ahead = 16, []string{"0x", "0X"}[r.Intn(2)]
	}
	digits := new(big.Int).Abs(big.NewInt(int64(n))).Text(base)
	if r.Intn(2) == 0 {
		digits = strings.ToUpper(digits)
	}
	sign := []string{"", "+"}[r.Intn(2)]
	if n < 0 || n == 0 && r.Intn(3) == 0 {
		sign = "-"
	}
	return sign + ahead + strings.Repeat("0", max(0, r.Intn(8)-4)) + digits
}

// text is a random text: a number, one that was spoilt, or bytes that numbers
// are made of.
func text(r *rand.Rand) string {
	const letters = "00123489aAfFxX+-- g_"
	some := func() string { i := r.Intn(len(letters)); return letters[i : i+1] }
	switch r.Intn(4) {
	case 0:
		s := ""
		for range r.Intn(5) {
			s += some()
		}
		return s
	case 1:
		s := written(r, near(r))
		i := r.Intn(len(s) + 1)
		return s[:i] + some() + s[i:]
	case 2:
		s := written(r, near(r))
		return s + s[r.Intn(len(s)):]
	}
	return written(r, near(r))
}

// P9.1 and P9.2: what the model answers.
func TestModel(t *testing.T) {
	r := rand.New(rand.NewSource(9))
	seen := map[api.Errno]int{}
	for range 100000 {
		a, b := text(r), text(r)
		first, firstWhy := model(a)
		second, secondWhy := model(b)
		seen[firstWhy]++
		n, e := Parse(a)
		if e != firstWhy || e == api.OK && big.NewInt(int64(n)).Cmp(first) != 0 || e != api.OK && n != 0 || Is(a) != (firstWhy == api.OK) {
			t.Fatalf("Parse(%q) = %d, %v, want %v, %v", a, n, e, first, firstWhy)
		}
		want, why := 0, firstWhy
		order := strings.Compare(a, b)
		switch {
		case firstWhy == api.OK && secondWhy == api.OK:
			want = first.Cmp(second)
			order = want
		case firstWhy == api.OK:
			why, order = secondWhy, -1
		case secondWhy == api.OK:
			order = 1
		}
		if got, e := Compare(a, b); got != want || e != why {
			t.Fatalf("Compare(%q, %q) = %d, %v, want %d, %v", a, b, got, e, want, why)
		}
		if got := Order(a, b); got != order {
			t.Fatalf("Order(%q, %q) = %d, want %d", a, b, got, order)
		}
	}
	for _, e := range []api.Errno{api.OK, api.ErrForm, api.ErrMany} {
		if seen[e] < 1000 {
			t.Errorf("%v was answered only %d times", e, seen[e])
		}
	}
}

// P9.2: sums as those of numbers of any size.
func TestSumModel(t *testing.T) {
	r := rand.New(rand.NewSource(92))
	for range 100000 {
		l := make([]int, r.Intn(6))
		sum, may := new(big.Int), true
		for i := range l {
			l[i] = near(r)
			n := big.NewInt(int64(l[i]))
			sum.Add(sum, n)
			may = may && within(n) && within(sum)
		}
		got, e := Sum(l...)
		if may && (e != api.OK || big.NewInt(int64(got)).Cmp(sum) != 0) || !may && (e != api.ErrMany || got != 0) {
			t.Fatalf("Sum(%d) = %d, %v, want %v, %t", l, got, e, sum, may)
		}
	}
}

// P9.3: of numbers that may not be, it is told that they may not.
func TestFormattedIsParsed(t *testing.T) {
	r := rand.New(rand.NewSource(93))
	for range 100000 {
		n := near(r)
		if !within(big.NewInt(int64(n))) {
			refused(t, api.ErrMany, Format(n))
			continue
		}
		parsed(t, Format(n), n)
	}
}

// P9.4: whatever three texts are taken, of numbers that may be, too great ones and
// others.
func TestOrderIsOne(t *testing.T) {
	r := rand.New(rand.NewSource(94))
	texts := []string{"", "5", "10", "010", "0xA", "-3", "30000000000000000000", "030000000000000000000", "-30000000000000000000", "0x", "3x", "-", "x9", "x10"}
	for range 60 {
		texts = append(texts, text(r))
	}
	for _, a := range texts {
		if Order(a, a) != 0 {
			t.Errorf("Order(%q, %q) = %d", a, a, Order(a, a))
		}
		for _, b := range texts {
			if Order(a, b) != -Order(b, a) {
				t.Errorf("Order(%q, %q) = %d, and turned round %d", a, b, Order(a, b), Order(b, a))
			}
			for _, c := range texts {
				if Order(a, b) <= 0 && Order(b, c) <= 0 && Order(a, c) != min(Order(a, b), Order(b, c)) {
					t.Errorf("Order does not go on over %q, %q, %q", a, b, c)
				}
			}
		}
	}
	sorted := slices.SortedFunc(slices.Values(texts), Order)
	if !slices.IsSortedFunc(sorted, Order) || slices.IndexFunc(sorted, func(s string) bool { return !Is(s) }) != count(texts) {
		t.Errorf("sorted by Order: %q", sorted)
	}
}

// count is how many texts are numbers.
func count(texts []string) int {
	n := 0
	for _, s := range texts {
		if Is(s) {
			n++
		}
	}
	return n
}

// padded is a number's text with noughts ahead of its digits.
func padded(s string, noughts int) string {
	i := 0
	if s[0] == '-' || s[0] == '+' {
		i++
	}
	if rest := s[i:]; strings.HasPrefix(rest, "0x") || strings.HasPrefix(rest, "0X") {
		i += 2
	}
	return s[:i] + strings.Repeat("0", noughts) + s[i:]
}

// P9.5: also of numbers that may not be, and of any number of noughts.
func TestNoughts(t *testing.T) {
	r := rand.New(rand.NewSource(95))
	for i := range 20000 {
		s, other := written(r, near(r)), written(r, near(r))
		noughts := 1 + r.Intn(40)
		if i%4000 == 0 {
			noughts = long
		}
		p := padded(s, noughts)
		n, e := Parse(s)
		if got, why := Parse(p); got != n || why != e || Is(p) != Is(s) {
			t.Fatalf("Parse(%s) = %d, %v, of %s it is %d, %v", short(s), n, e, short(p), got, why)
		}
		want, e := Compare(s, other)
		if got, why := Compare(p, other); got != want || why != e {
			t.Fatalf("Compare(%s, %s) = %d, %v, of %s it is %d, %v", short(s), short(other), want, e, short(p), got, why)
		}
		if Is(s) {
			ordered(t, s, p, 0)
		}
	}
}
