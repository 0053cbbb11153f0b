package tests

import (
	"fmt"
	"math/rand"
	"slices"
	"strings"
	"testing"

	"loop.example/g00380/impl"
)

func sameFilter(f, g impl.Filter) bool {
	return slices.EqualFunc(f.Any, g.Any, func(c, d impl.Clause) bool { return slices.Equal(c.Terms, d.Terms) })
}

// ordered are terms in the order of a normal form, unlike.
func ordered(t *testing.T) []impl.Term {
	return []impl.Term{
		term(impl.TeSize, "A", intOf(0)),
		term(impl.TeEq, "_", intOf(9)),
		term(impl.TeEq, "a", impl.Value{}),
		term(impl.TeEq, "a", boolOf(1)),
		term(impl.TeEq, "a", intOf(-10)),
		term(impl.TeEq, "a", intOf(-9)),
		term(impl.TeEq, "a", intOf(10)),
		term(impl.TeEq, "a", textOf("")),
		term(impl.TeEq, "a", textOf("b")),
		term(impl.TeEq, "a", textOf("ba")),
		// By bodies' bytes the longer text would come behind.
		term(impl.TeEq, "a", mustList(t, textOf("a\x00\x00"))),
		term(impl.TeEq, "a", mustList(t, textOf("b"))),
		term(impl.TeEq, "a", mustDoc(t, field("aa", intOf(1)))),
		term(impl.TeEq, "a", mustDoc(t, field("b", intOf(1)))),
		term(impl.TeNe, "a", impl.Value{}),
		term(impl.TeLt, "a", intOf(1)),
		term(impl.TeIn, "a", mustList(t)),
		term(impl.TeExists, "a", boolOf(0)),
		term(impl.TeExists, "a", boolOf(1)),
		term(impl.TeType, "a", intOf(5)),
		term(impl.TeSize, "a", intOf(0)),
		term(impl.TeEq, "a.b", impl.Value{}),
		term(impl.TeEq, "a.b.c", impl.Value{}),
		term(impl.TeEq, "a0", impl.Value{}),
		term(impl.TeEq, "aa", impl.Value{}),
		term(impl.TeGte, "b", impl.Value{}),
		term(impl.TeEq, "id", impl.Value{}),
	}
}

func TestP4NormalOrder(t *testing.T) {
	list := ordered(t)
	for i, x := range list {
		for j, y := range list {
			want := filter(clause(x, y))
			switch {
			case i == j:
				want = filter(clause(x))
			case i > j:
				want = filter(clause(y, x))
			}
			if got, code := impl.NormalFilter(filter(clause(x, y))); code != impl.OK || !sameFilter(got, want) {
				t.Errorf("NormalFilter of %v, %v: %v, %d", x, y, got, code)
			}
		}
	}
}

// perms are all orders of the terms.
func perms(list []impl.Term) [][]impl.Term {
	if len(list) == 0 {
		return [][]impl.Term{nil}
	}
	var all [][]impl.Term
	for i := range list {
		rest := slices.Delete(slices.Clone(list), i, i+1)
		for _, p := range perms(rest) {
			all = append(all, append([]impl.Term{list[i]}, p...))
		}
	}
	return all
}

func TestP4NormalClauses(t *testing.T) {
	list := ordered(t)
	a, b, c, d := list[2], list[14], list[21], list[25]
	rows := []struct{ given, want []impl.Term }{
		{[]impl.Term{a}, []impl.Term{a}},
		{[]impl.Term{a, b, c, d}, []impl.Term{a, b, c, d}},
		{[]impl.Term{a, a, a, a}, []impl.Term{a}},
		{[]impl.Term{a, a, b, b}, []impl.Term{a, b}},
		{[]impl.Term{a, b, b, b}, []impl.Term{a, b}},
		{[]impl.Term{a, b, c, c}, []impl.Term{a, b, c}},
		{[]impl.Term{d, a, d}, []impl.Term{a, d}},
	}
	last := clause(d, a, d)
	for _, r := range rows {
		for _, p := range perms(r.given) {
			// Clauses stay in their order, and stay though they are alike.
			want := filter(clause(r.want...), clause(a, d), clause(r.want...))
			if got, code := impl.NormalFilter(filter(clause(p...), last, clause(p...))); code != impl.OK || !sameFilter(got, want) {
				t.Errorf("NormalFilter of %v: %v, %d, not %v", p, got, code, want)
			}
		}
	}
}

func TestP4NormalOfClausesWithoutTerms(t *testing.T) {
	a := clause(term(impl.TeEq, "a", intOf(1)))
	none, empty := clause(), impl.Clause{Terms: []impl.Term{}}
	for _, f := range []impl.Filter{filter(none), filter(empty), filter(none, none, none), filter(a, none), filter(none, a), filter(a, empty, a),
		filter(a, a, none), filter(empty, a, none)} {
		got, code := impl.NormalFilter(f)
		if code != impl.OK || len(got.Any) != 1 || len(got.Any[0].Terms) != 0 {
			t.Errorf("NormalFilter of %v: %v, %d", f, got, code)
		}
	}
	if got, code := impl.NormalFilter(filter(a, a)); code != impl.OK || !sameFilter(got, filter(a, a)) {
		t.Errorf("NormalFilter of two alike clauses: %v, %d", got, code)
	}
}

// randomFilter is a right one of terms on the document's paths, some of them twice.
func randomFilter(r *rand.Rand, x node) impl.Filter {
	f := impl.Filter{}
	for range 1 + r.Intn(impl.MaxClauses) {
		c := impl.Clause{}
		for range 1 + r.Intn(impl.MaxTerms) {
			y, _ := randomTerm(r, x)
			if len(c.Terms) > 0 && r.Intn(4) == 0 {
				y = pick(r, c.Terms)
			}
			c.Terms = append(c.Terms, y)
		}
		if r.Intn(12) == 0 {
			c = impl.Clause{}
		}
		f.Any = append(f.Any, c)
	}
	return f
}

// letsIn is what Matches has to answer, by TermMatches.
func letsIn(t *testing.T, f impl.Filter, doc impl.Value) bool {
	t.Helper()
	for _, c := range f.Any {
		all := true
		for _, x := range c.Terms {
			lets, code := impl.TermMatches(x, doc)
			if code != impl.OK {
				t.Errorf("TermMatches of %v: %d", x, code)
			}
			all = all && lets
		}
		if all {
			return true
		}
	}
	return false
}

// risesByTerms asks whether a clause's terms are in their order, none twice.
func risesByTerms(c impl.Clause) bool {
	for i := 1; i < len(c.Terms); i++ {
		a, b := c.Terms[i-1], c.Terms[i]
		order, _ := impl.OrderValues(a.Value, b.Value)
		if a.Path > b.Path || a.Path == b.Path && (a.Op > b.Op || a.Op == b.Op && order >= 0) {
			return false
		}
	}
	return true
}

func TestP4RandomFilters(t *testing.T) {
	r := rand.New(rand.NewSource(43))
	docs := randomDocs(44, 600)
	var seen [2]int
	for _, x := range docs {
		f := randomFilter(r, x)
		normal, code := impl.NormalFilter(f)
		if code != impl.OK || !impl.FilterOK(normal) || slices.ContainsFunc(normal.Any, func(c impl.Clause) bool { return !risesByTerms(c) }) {
			t.Errorf("NormalFilter of %v: %v, %d", f, normal, code)
		}
		if again, code := impl.NormalFilter(normal); code != impl.OK || !sameFilter(again, normal) {
			t.Errorf("NormalFilter of the normal form %v: %v, %d", normal, again, code)
		}
		for _, y := range append([]node{x}, docs[:20]...) {
			want := letsIn(t, f, y.value())
			got, code := impl.Matches(f, y.value())
			same, c := impl.Matches(normal, y.value())
			if got != want || same != want || code != impl.OK || c != impl.OK {
				t.Errorf("Matches of %v on %v: %v, %d, its normal form %v, %d, not %v", f, y, got, code, same, c, want)
			}
			if want {
				seen[1]++
			} else {
				seen[0]++
			}
		}
	}
	if seen[0] < 500 || seen[1] < 500 {
		t.Errorf("filters were asked %d times for no, %d times for yes only", seen[0], seen[1])
	}
}

func TestP4FilterText(t *testing.T) {
	one, two := term(impl.TeEq, "a", intOf(1)), term(impl.TeNe, "b.c", textOf("x"))
	rows := []struct {
		want string
		f    impl.Filter
	}{
		{"a eq 1", filter(clause(one))},
		{"b.c ne 'x'", filter(clause(two))},
		{"a.b.c.d lt -1000000000000", filter(clause(term(impl.TeLt, "a.b.c.d", intOf(-impl.MaxNumber))))},
		{"a lte null", filter(clause(term(impl.TeLte, "a", impl.Value{})))},
		{"a gt {b:[1],c:''}", filter(clause(term(impl.TeGt, "a", mustDoc(t, field("c", textOf("")), field("b", mustList(t, intOf(1)))))))},
		{"a gte []", filter(clause(term(impl.TeGte, "a", mustList(t))))},
		{"a in [1,'x',[null]]", filter(clause(term(impl.TeIn, "a", mustList(t, intOf(1), textOf("x"), mustList(t, impl.Value{})))))},
		{"id exists true", filter(clause(term(impl.TeExists, "id", boolOf(1))))},
		{"a exists false", filter(clause(term(impl.TeExists, "a", boolOf(0))))},
		{"a type 0", filter(clause(term(impl.TeType, "a", intOf(impl.VaNull))))},
		{"a type 5", filter(clause(term(impl.TeType, "a", intOf(impl.VaDoc))))},
		{"a size 0", filter(clause(term(impl.TeSize, "a", intOf(0))))},
		{"a eq 1 and b.c ne 'x'", filter(clause(one, two))},
		// Nothing is sorted, and nothing left out.
		{"b.c ne 'x' and a eq 1 and b.c ne 'x' and a eq 1", filter(clause(two, one, two, one))},
		{"b.c ne 'x' or a eq 1", filter(clause(two), clause(one))},
		{"b.c ne 'x' and a eq 1 or a eq 1 or b.c ne 'x' and b.c ne 'x'", filter(clause(two, one), clause(one), clause(two, two))},
		{"a eq ' and ' or a eq ' or '", filter(clause(term(impl.TeEq, "a", textOf(" and "))), clause(term(impl.TeEq, "a", textOf(" or "))))},
		{"", filter(clause())},
		{" or ", filter(clause(), clause())},
		{"a eq 1 or ", filter(clause(one), clause())},
		{" or a eq 1", filter(clause(), clause(one))},
		{"a eq 1 or  or b.c ne 'x'", filter(clause(one), clause(), clause(two))},
	}
	for _, r := range rows {
		if s, code := impl.FilterText(r.f); s != r.want || code != impl.OK {
			t.Errorf("FilterText: %q, %d, not %q", s, code, r.want)
		}
	}
}

func TestP4TextsOfRandomFilters(t *testing.T) {
	r := rand.New(rand.NewSource(45))
	for _, x := range randomDocs(46, 400) {
		f := randomFilter(r, x)
		var clauses []string
		for _, c := range f.Any {
			var terms []string
			for _, y := range c.Terms {
				v, _ := impl.ValueText(y.Value)
				terms = append(terms, fmt.Sprintf("%s %s %s", y.Path, termNames[y.Op], v))
			}
			clauses = append(clauses, strings.Join(terms, " and "))
		}
		want := strings.Join(clauses, " or ")
		if s, code := impl.FilterText(f); s != want || code != impl.OK {
			t.Errorf("FilterText: %q, %d, not %q", s, code, want)
		}
	}
}

func TestP4LongestText(t *testing.T) {
	x := term(impl.TeEq, "a", raw(impl.VaList, strings.Repeat("\x00", impl.MaxBody)))
	full := clause(x, x, x, x)
	s, code := impl.FilterText(filter(full, full, full))
	nulls := "a eq [" + strings.Repeat("null,", impl.MaxBody-1) + "null]"
	if code != impl.OK || strings.Count(s, nulls) != 12 || len(s) != 12*len(nulls)+9*len(" and ")+2*len(" or ") {
		t.Errorf("FilterText of the most: %d bytes, %d", len(s), code)
	}
}
