package tests

import (
	"math"
	"math/rand"
	"slices"
	"strings"
	"testing"

	"loop.example/g00380/impl"
)

func term(op int, path string, v impl.Value) impl.Term {
	return impl.Term{Op: op, Path: path, Value: v}
}

func clause(terms ...impl.Term) impl.Clause { return impl.Clause{Terms: terms} }

func filter(clauses ...impl.Clause) impl.Filter { return impl.Filter{Any: clauses} }

var allTerms = []int{impl.TeEq, impl.TeNe, impl.TeLt, impl.TeLte, impl.TeGt, impl.TeGte, impl.TeIn, impl.TeExists, impl.TeType, impl.TeSize}

// termValue is one that each Op takes.
func termValue(op int) impl.Value {
	switch op {
	case impl.TeIn:
		return raw(impl.VaList, "\x00")
	case impl.TeExists:
		return boolOf(1)
	}
	return intOf(3)
}

// wrongFilter holds every call of a filter to a wrong one, whatever document comes with it.
func wrongFilter(t *testing.T, what string, f impl.Filter) {
	t.Helper()
	if impl.FilterOK(f) {
		t.Errorf("FilterOK of %s", what)
	}
	for _, doc := range []impl.Value{mustDoc(t), mustDoc(t, field("a", intOf(3))), {}, boolOf(2)} {
		if lets, code := impl.Matches(f, doc); lets || code != impl.ErrBad {
			t.Errorf("Matches of %s: %v, %d", what, lets, code)
		}
	}
	if x, code := impl.NormalFilter(f); len(x.Any) != 0 || code != impl.ErrBad {
		t.Errorf("NormalFilter of %s: %v, %d", what, x, code)
	}
	if s, code := impl.FilterText(f); s != "" || code != impl.ErrBad {
		t.Errorf("FilterText of %s: %q, %d", what, s, code)
	}
}

func rightFilter(t *testing.T, what string, f impl.Filter) {
	t.Helper()
	if !impl.FilterOK(f) {
		t.Errorf("%s is a filter", what)
	}
	_, m := impl.Matches(f, mustDoc(t))
	_, n := impl.NormalFilter(f)
	_, s := impl.FilterText(f)
	if m != impl.OK || n != impl.OK || s != impl.OK {
		t.Errorf("%s: Matches %d, NormalFilter %d, FilterText %d", what, m, n, s)
	}
}

// termIs holds all calls to whether x is a right term, at every place of a filter.
func termIs(t *testing.T, what string, x impl.Term, want bool) {
	t.Helper()
	if impl.TermOK(x) != want {
		t.Errorf("TermOK of %s is not %v", what, want)
	}
	lets, code := impl.TermMatches(x, mustDoc(t, field("a", intOf(3))))
	if want != (code == impl.OK) || !want && (lets || code != impl.ErrBad) {
		t.Errorf("TermMatches of %s: %v, %d", what, lets, code)
	}
	if want {
		rightFilter(t, what, filter(clause(x)))
		return
	}
	// A clause ahead that lets in everything leaves the wrong term behind it a fault.
	right := term(impl.TeNe, "b", intOf(1))
	wrongFilter(t, what, filter(clause(x)))
	wrongFilter(t, what+" last", filter(clause(right, right, right, x)))
	wrongFilter(t, what+" behind no terms", filter(clause(), clause(), clause(x)))
	wrongFilter(t, what+" ahead of no terms", filter(clause(x, right), clause()))
}

func TestP4Constants(t *testing.T) {
	for i, op := range allTerms {
		if op != i+1 {
			t.Errorf("the term %d is %d", i+1, op)
		}
	}
	if impl.MaxTerms != 4 || impl.MaxClauses != 3 {
		t.Errorf("MaxTerms %d, MaxClauses %d", impl.MaxTerms, impl.MaxClauses)
	}
}

func TestP4TermsOps(t *testing.T) {
	for _, op := range allTerms {
		termIs(t, "an Op", term(op, "a", termValue(op)), true)
	}
	for _, op := range []int{0, 11, -1, -7, 12, 256 + impl.TeEq, 1<<32 + impl.TeEq, math.MaxInt, math.MinInt} {
		for _, v := range []impl.Value{{}, boolOf(1), intOf(3), textOf("a"), mustList(t), mustDoc(t)} {
			termIs(t, "no Op", term(op, "a", v), false)
		}
	}
	termIs(t, "a zero term", impl.Term{}, false)
}

func TestP4TermsPaths(t *testing.T) {
	fifty := strings.Join([]string{strings.Repeat("n", 12), strings.Repeat("n", 12), strings.Repeat("n", 12), strings.Repeat("n", 11)}, ".")
	for _, op := range allTerms {
		for _, path := range []string{"a", "_", "id", "a.b.c.d", "id.x", fifty} {
			termIs(t, path, term(op, path, termValue(op)), true)
		}
		for _, path := range []string{"", ".", "a.", ".a", "a..b", "a.b.c.d.e", "9", "a b", fifty + "n", strings.Repeat("n", 13),
			strings.Repeat("n", impl.MaxText), strings.Repeat("n", impl.MaxText+1)} {
			termIs(t, "a wrong path", term(op, path, termValue(op)), false)
		}
	}
}

// takes is chapter 4's word on the Values of each Op.
func takes(op int, v impl.Value) bool {
	switch op {
	case impl.TeIn:
		return v.Kind == impl.VaList
	case impl.TeExists:
		return v.Kind == impl.VaBool
	case impl.TeType:
		return v.Kind == impl.VaInt && v.N >= 0 && v.N <= 5
	case impl.TeSize:
		return v.Kind == impl.VaInt && v.N >= 0
	}
	return true
}

func TestP4TermsValues(t *testing.T) {
	for _, op := range allTerms {
		for name, v := range wrongValues() {
			termIs(t, name, term(op, "a", v), false)
		}
		for name, v := range edgeValues() {
			termIs(t, name, term(op, "a", v), takes(op, v))
		}
		for _, n := range []int{-impl.MaxNumber, -2, -1, 0, 1, 4, 5, 6, 7, 300, 301, impl.MaxNumber} {
			termIs(t, "a number", term(op, "a", intOf(n)), takes(op, intOf(n)))
		}
	}
	rows := []struct {
		op, n int
		want  bool
	}{
		{impl.TeType, -1, false}, {impl.TeType, 0, true}, {impl.TeType, 5, true}, {impl.TeType, 6, false},
		{impl.TeSize, -1, false}, {impl.TeSize, 0, true}, {impl.TeSize, impl.MaxNumber, true},
	}
	for _, r := range rows {
		termIs(t, "a bound", term(r.op, "a", intOf(r.n)), r.want)
	}
}

func TestP4FilterLengths(t *testing.T) {
	x := term(impl.TeEq, "a", intOf(1))
	full := clause(slices.Repeat([]impl.Term{x}, impl.MaxTerms)...)
	over := clause(slices.Repeat([]impl.Term{x}, impl.MaxTerms+1)...)
	rightFilter(t, "one clause", filter(clause(x)))
	rightFilter(t, "one clause without terms", filter(clause()))
	rightFilter(t, "a clause of an empty list", filter(clause([]impl.Term{}...)))
	rightFilter(t, "two clauses", filter(full, clause()))
	rightFilter(t, "MaxClauses full ones", filter(full, full, full))
	rightFilter(t, "MaxClauses without terms", filter(clause(), clause(), clause()))
	wrongFilter(t, "no clause", impl.Filter{})
	wrongFilter(t, "an empty list", impl.Filter{Any: []impl.Clause{}})
	wrongFilter(t, "one clause more", filter(full, full, full, full))
	wrongFilter(t, "one more without terms", filter(clause(), clause(), clause(), clause()))
	wrongFilter(t, "one term more", filter(over))
	wrongFilter(t, "one term more last", filter(full, clause(), over))
	wrongFilter(t, "one term more ahead of no terms", filter(over, clause()))
	// Lists within a struct are bounded by chapter 4 alone: never ErrLong.
	for _, n := range []int{impl.MaxList, impl.MaxList + 1, impl.MaxText + 1} {
		wrongFilter(t, "so many clauses", filter(slices.Repeat([]impl.Clause{clause(x)}, n)...))
		wrongFilter(t, "so many clauses without terms", filter(make([]impl.Clause, n)...))
		wrongFilter(t, "so many terms", filter(clause(slices.Repeat([]impl.Term{x}, n)...)))
		wrongFilter(t, "so many wrong terms", filter(clause(x), clause(make([]impl.Term, n)...)))
	}
}

func TestP4WrongDocuments(t *testing.T) {
	wrong := []impl.Value{{}, boolOf(1), intOf(1), textOf("a"), mustList(t), mustList(t, mustDoc(t, field("a", intOf(3)))),
		raw(impl.VaDoc, "a"), nested(6, impl.VaDoc), {Kind: impl.VaDoc, N: 1}, {Kind: 6}, {Kind: -1}}
	for _, v := range wrongValues() {
		wrong = append(wrong, v)
	}
	for _, doc := range wrong {
		for _, op := range allTerms {
			x := term(op, "a", termValue(op))
			if lets, code := impl.TermMatches(x, doc); lets || code != impl.ErrBad {
				t.Errorf("TermMatches of Op %d on %v: %v, %d", op, doc, lets, code)
			}
			if lets, code := impl.Matches(filter(clause(x)), doc); lets || code != impl.ErrBad {
				t.Errorf("Matches of Op %d on %v: %v, %d", op, doc, lets, code)
			}
		}
		if lets, code := impl.Matches(filter(clause()), doc); lets || code != impl.ErrBad {
			t.Errorf("Matches without terms on %v: %v, %d", doc, lets, code)
		}
	}
}

type letsRow struct {
	path string
	v    impl.Value
	// ops are the words of those that let the document in, of the Ops that were asked.
	ops string
}

var termNames = []string{"", "eq", "ne", "lt", "lte", "gt", "gte", "in", "exists", "type", "size"}

func hasLets(t *testing.T, doc impl.Value, asked []int, rows []letsRow) {
	t.Helper()
	for _, r := range rows {
		var ops []string
		for _, op := range asked {
			lets, code := impl.TermMatches(term(op, r.path, r.v), doc)
			all, c := impl.Matches(filter(clause(term(op, r.path, r.v))), doc)
			if code != impl.OK || c != impl.OK || all != lets {
				t.Errorf("Op %d on %s with %v: %v, %d, Matches %v, %d", op, r.path, r.v, lets, code, all, c)
			}
			if lets {
				ops = append(ops, termNames[op])
			}
		}
		if got := strings.Join(ops, " "); got != r.ops {
			t.Errorf("%s with %v is let in by %q, not %q", r.path, r.v, got, r.ops)
		}
	}
}

// letsDoc has paths that come to one value, to several, to nothing and to null.
func letsDoc(t *testing.T) impl.Value {
	pair := mustList(t, intOf(1), intOf(7))
	return mustDoc(t,
		field("b", boolOf(0)),
		field("d", mustDoc(t, field("x", intOf(5)))),
		field("e", mustList(t)),
		field("l", mustList(t, intOf(1), intOf(7), textOf("x"), impl.Value{})),
		field("m", mustList(t, mustDoc(t, field("x", intOf(2))), intOf(9), mustDoc(t, field("x", pair)), mustDoc(t))),
		field("n", intOf(5)),
		field("s", textOf("b")),
		field("w", mustList(t, mustList(t), mustList(t, intOf(3)), mustList(t, pair))),
		field("z", impl.Value{}),
	)
}

func TestP4ComparedValues(t *testing.T) {
	l := mustList(t, intOf(1), intOf(7), textOf("x"), impl.Value{})
	hasLets(t, letsDoc(t), allTerms[:6], []letsRow{
		{"n", intOf(4), "ne gt gte"},
		{"n", intOf(5), "eq lte gte"},
		{"n", intOf(6), "ne lt lte"},
		{"n", textOf(""), "ne"},
		{"n", textOf("z"), "ne"},
		{"n", boolOf(1), "ne"},
		{"n", impl.Value{}, "ne"},
		{"b", boolOf(0), "eq lte gte"},
		{"b", boolOf(1), "ne lt lte"},
		{"b", intOf(0), "ne"},
		{"s", textOf("b"), "eq lte gte"},
		{"s", textOf("b\x00"), "ne lt lte"},
		{"s", textOf("a\xff"), "ne gt gte"},
		{"s", mustList(t, textOf("b")), "ne"},
		// A list is one of the values itself, its items are the others.
		{"l", intOf(1), "eq lte gt gte"},
		{"l", intOf(0), "ne gt gte"},
		{"l", intOf(7), "eq lt lte gte"},
		{"l", intOf(8), "ne lt lte"},
		{"l", intOf(5), "ne lt lte gt gte"},
		{"l", textOf("x"), "eq lte gte"},
		{"l", impl.Value{}, "eq lte gte"},
		{"l", boolOf(1), "ne"},
		{"l", l, "eq lte gte"},
		{"l", mustList(t, intOf(1), intOf(7)), "ne gt gte"},
		{"l", mustList(t, intOf(2)), "ne lt lte"},
		{"l", mustDoc(t), "ne"},
		{"w", mustList(t), "eq lte gt gte"},
		{"w", intOf(3), "ne"},
		{"e", mustList(t), "eq lte gte"},
		{"e", impl.Value{}, "ne"},
		{"d", mustDoc(t, field("x", intOf(5))), "eq lte gte"},
		{"d", mustDoc(t, field("x", intOf(6))), "ne lt lte"},
		{"d", mustDoc(t), "ne gt gte"},
		{"d.x", intOf(5), "eq lte gte"},
		{"m.x", intOf(2), "eq lt lte gt gte"},
		{"m.x", intOf(7), "eq lt lte gte"},
		{"m.x", intOf(9), "ne lt lte"},
		{"m.x", mustList(t, intOf(1), intOf(7)), "eq lte gte"},
		{"m.x", impl.Value{}, "ne"},
		{"m", mustDoc(t), "eq lte gt gte"},
	})
}

func TestP4ComparedWithNothing(t *testing.T) {
	for _, path := range []string{"none", "n.x", "z.x", "e.x", "w.x", "d.y", "m.y", "d.x.x", "l.x", "z"} {
		hasLets(t, letsDoc(t), allTerms[:6], []letsRow{
			{path, impl.Value{}, "eq lte gte"},
			{path, boolOf(0), "ne"},
			{path, intOf(0), "ne"},
			{path, intOf(-impl.MaxNumber), "ne"},
			{path, textOf(""), "ne"},
			{path, mustList(t), "ne"},
			{path, mustList(t, impl.Value{}), "ne"},
			{path, mustDoc(t), "ne"},
		})
		hasLets(t, letsDoc(t), []int{impl.TeIn}, []letsRow{
			{path, mustList(t, impl.Value{}), "in"},
			{path, mustList(t, intOf(1), impl.Value{}), "in"},
			{path, mustList(t, intOf(1), mustList(t, impl.Value{})), ""},
			{path, mustList(t), ""},
		})
		hasLets(t, letsDoc(t), []int{impl.TeSize}, []letsRow{{path, intOf(0), ""}, {path, intOf(1), ""}})
		hasLets(t, mustDoc(t), allTerms[:6], []letsRow{{path, impl.Value{}, "eq lte gte"}, {path, intOf(0), "ne"}})
	}
}

func TestP4In(t *testing.T) {
	pair := mustList(t, intOf(1), intOf(7))
	hasLets(t, letsDoc(t), []int{impl.TeIn}, []letsRow{
		{"n", mustList(t), ""},
		{"n", mustList(t, intOf(5)), "in"},
		{"n", mustList(t, intOf(4), textOf("5"), intOf(5), intOf(5)), "in"},
		{"n", mustList(t, intOf(4), textOf("5")), ""},
		{"n", mustList(t, mustList(t, intOf(5))), ""},
		{"n", mustList(t, impl.Value{}), ""},
		{"l", mustList(t, intOf(2), intOf(7)), "in"},
		{"l", mustList(t, intOf(2), intOf(6)), ""},
		{"l", mustList(t, intOf(1), intOf(7), textOf("x"), impl.Value{}), "in"},
		{"l", mustList(t, mustList(t, intOf(1), intOf(7), textOf("x"), impl.Value{})), "in"},
		{"e", mustList(t), ""},
		{"e", mustList(t, impl.Value{}), ""},
		{"e", mustList(t, mustList(t)), "in"},
		{"m.x", mustList(t, pair), "in"},
		{"m.x", mustList(t, mustDoc(t)), ""},
		{"m", mustList(t, mustDoc(t)), "in"},
	})
}

func TestP4Exists(t *testing.T) {
	for _, path := range []string{"b", "d", "d.x", "e", "l", "m.x", "n", "w", "z"} {
		hasLets(t, letsDoc(t), []int{impl.TeExists}, []letsRow{{path, boolOf(1), "exists"}, {path, boolOf(0), ""}})
	}
	for _, path := range []string{"none", "a", "d.y", "d.x.x", "e.x", "l.x", "m.y", "n.x", "w.x", "z.x", "id"} {
		hasLets(t, letsDoc(t), []int{impl.TeExists}, []letsRow{{path, boolOf(1), ""}, {path, boolOf(0), "exists"}})
	}
}

func TestP4Type(t *testing.T) {
	rows := map[string][]int{
		"b":    {impl.VaBool},
		"d":    {impl.VaDoc},
		"d.x":  {impl.VaInt},
		"e":    {impl.VaList},
		"l":    {impl.VaNull, impl.VaInt, impl.VaText, impl.VaList},
		"m":    {impl.VaInt, impl.VaList, impl.VaDoc},
		"m.x":  {impl.VaInt, impl.VaList},
		"s":    {impl.VaText},
		"w":    {impl.VaList},
		"z":    {impl.VaNull},
		"none": nil,
		"z.x":  nil,
		"e.x":  nil,
		"m.y":  nil,
	}
	for path, kinds := range rows {
		for kind := range 6 {
			want := ""
			if slices.Contains(kinds, kind) {
				want = "type"
			}
			hasLets(t, letsDoc(t), []int{impl.TeType}, []letsRow{{path, intOf(kind), want}})
		}
	}
}

func TestP4Size(t *testing.T) {
	rows := map[string][]int{
		"e":   {0},
		"l":   {4},
		"m":   {4},
		"m.x": {2},
		// The list itself and the lists among its items, but none within these.
		"w":    {0, 1, 3},
		"b":    nil,
		"d":    nil,
		"n":    nil,
		"s":    nil,
		"z":    nil,
		"none": nil,
	}
	for path, sizes := range rows {
		for _, n := range []int{0, 1, 2, 3, 4, 5, impl.MaxNumber} {
			want := ""
			if slices.Contains(sizes, n) {
				want = "size"
			}
			hasLets(t, letsDoc(t), []int{impl.TeSize}, []letsRow{{path, intOf(n), want}})
		}
	}
	// As many items as a document's body holds.
	most := mustDoc(t, field("a", raw(impl.VaList, strings.Repeat("\x00", 295))))
	hasLets(t, most, []int{impl.TeSize}, []letsRow{{"a", intOf(295), "size"}, {"a", intOf(294), ""}, {"a", intOf(296), ""}})
}

// Each value that a term asks for may be another one: no two terms need the same.
func TestP4TermsOfOneClause(t *testing.T) {
	low, high := term(impl.TeLt, "l", intOf(2)), term(impl.TeGt, "l", intOf(6))
	if lets, code := impl.Matches(filter(clause(low, high)), letsDoc(t)); !lets || code != impl.OK {
		t.Errorf("two values by two terms: %v, %d", lets, code)
	}
}

func TestP4ClausesAndTerms(t *testing.T) {
	doc := mustDoc(t, field("a", intOf(1)))
	yes, no := term(impl.TeEq, "a", intOf(1)), term(impl.TeEq, "a", intOf(2))
	// Each number's bits say which of up to four terms let the document in.
	var clauses []impl.Clause
	var lets []bool
	for n := range impl.MaxTerms + 1 {
		for bits := range 1 << n {
			c := impl.Clause{}
			for i := range n {
				c.Terms = append(c.Terms, []impl.Term{no, yes}[bits>>i&1])
			}
			clauses, lets = append(clauses, c), append(lets, bits == 1<<n-1)
		}
	}
	hasMatch := func(want bool, list ...impl.Clause) {
		if got, code := impl.Matches(filter(list...), doc); got != want || code != impl.OK {
			t.Errorf("Matches of %v: %v, %d", list, got, code)
		}
	}
	for i, c := range clauses {
		hasMatch(lets[i], c)
		for j, d := range clauses {
			hasMatch(lets[i] || lets[j], c, d)
			for k, e := range clauses {
				hasMatch(lets[i] || lets[j] || lets[k], c, d, e)
			}
		}
	}
}

func TestP4ClauseWithoutTerms(t *testing.T) {
	no := term(impl.TeExists, "a", boolOf(1))
	for _, doc := range []impl.Value{mustDoc(t), mustDoc(t, field("b", impl.Value{})), nested(5, impl.VaDoc)} {
		for _, f := range []impl.Filter{filter(clause()), filter(clause([]impl.Term{}...)), filter(clause(no), clause()), filter(clause(no), clause(no), clause())} {
			if lets, code := impl.Matches(f, doc); !lets || code != impl.OK {
				t.Errorf("Matches of %v on %v: %v, %d", f, doc, lets, code)
			}
		}
	}
}

// lets is chapter 4's word on a term, of trees.
func (x node) lets(op int, path string, v node) bool {
	found := x.comesTo(path)
	if op == impl.TeExists {
		return (len(found) > 0) == (v.n == 1)
	}
	if len(found) == 0 && op != impl.TeType {
		found = []node{{}}
	}
	some := false
	for _, y := range found {
		c, same := y.order(v), y.kind == v.kind
		switch op {
		case impl.TeEq, impl.TeNe:
			some = some || c == 0
		case impl.TeLt:
			some = some || same && c == -1
		case impl.TeLte:
			some = some || same && c != 1
		case impl.TeGt:
			some = some || same && c == 1
		case impl.TeGte:
			some = some || same && c != -1
		case impl.TeIn:
			for _, item := range v.items {
				some = some || y.order(item) == 0
			}
		case impl.TeType:
			some = some || y.kind == v.n
		case impl.TeSize:
			some = some || y.kind == impl.VaList && len(y.items) == v.n
		}
	}
	return some != (op == impl.TeNe)
}

// termNode is a value for a term: often one that the path comes to.
func termNode(r *rand.Rand, op int, found []node) node {
	list := append(slices.Clone(found), node{}, randomNode(r, 2), randomLeaf(r))
	switch op {
	case impl.TeIn:
		x := node{kind: impl.VaList}
		for range r.Intn(4) {
			if item := pick(r, list); item.depth() < impl.MaxDeep {
				x.items = append(x.items, item)
			}
		}
		return x
	case impl.TeExists:
		return node{kind: impl.VaBool, n: r.Intn(2)}
	case impl.TeType:
		return node{kind: impl.VaInt, n: r.Intn(6)}
	case impl.TeSize:
		return node{kind: impl.VaInt, n: r.Intn(5)}
	}
	return pick(r, list)
}

// randomTerm has a path of the document's or another one, and a right value.
func randomTerm(r *rand.Rand, x node) (impl.Term, node) {
	paths := append(x.pathsOf("", 4), randomPath(r), randomPath(r))
	for {
		op, path := pick(r, allTerms), pick(r, paths)
		if v := termNode(r, op, x.comesTo(path)); v.fits() {
			return term(op, path, v.value()), v
		}
	}
}

func TestP4RandomTerms(t *testing.T) {
	r := rand.New(rand.NewSource(41))
	var seen [11][2]int
	for _, x := range randomDocs(42, 2000) {
		for range 15 {
			y, v := randomTerm(r, x)
			want := x.lets(y.Op, y.Path, v)
			if got, code := impl.TermMatches(y, x.value()); got != want || code != impl.OK {
				t.Errorf("%s %s %v on %v: %v, %d", y.Path, termNames[y.Op], v, x, got, code)
			}
			if want {
				seen[y.Op][1]++
			} else {
				seen[y.Op][0]++
			}
		}
	}
	for _, op := range allTerms {
		if seen[op][0] < 100 || seen[op][1] < 100 {
			t.Errorf("%s was asked %d times for no, %d times for yes only", termNames[op], seen[op][0], seen[op][1])
		}
	}
}
