package tests

import (
	"fmt"
	"math"
	"slices"
	"strings"
	"testing"

	"loop.example/g00380/impl"
)

// everything is a filter that lets in all documents.
func everything() impl.Filter { return filter(clause()) }

// where is a filter of one clause.
func where(terms ...impl.Term) impl.Filter { return filter(clause(terms...)) }

// parts are paths to sort by, a - ahead of a falling one.
func parts(paths ...string) []impl.Part { return def("", paths...).Parts }

// shortNames are so many, all unlike.
func shortNames(n int) []string {
	var list []string
	for i := range n {
		list = append(list, fmt.Sprint("n", i))
	}
	return list
}

func wrongQuery(t *testing.T, what string, q impl.Query) {
	t.Helper()
	if impl.QueryOK(q) {
		t.Errorf("QueryOK, %s: it is right", what)
	}
	doc := record("id", num(1)).value()
	x, _ := impl.BuildIndex(def("one", "a"), []impl.Value{doc})
	for _, docs := range [][]impl.Value{nil, {doc}, {doc, doc}} {
		if list, code := impl.FindDocs(q, docs); len(list) != 0 || code != impl.ErrBad {
			t.Errorf("FindDocs, %s: %v, %d", what, list, code)
		}
		for _, p := range []impl.Plan{{}, {Index: "one", Interval: from("")}, {Index: "none"}} {
			if list, code := impl.RunPlan(p, q, docs, []impl.Index{x}); len(list) != 0 || code != impl.ErrBad {
				t.Errorf("RunPlan, %s: %v, %d", what, list, code)
			}
		}
	}
	for _, list := range [][]impl.Index{nil, {x}, {x, x}} {
		if p, code := impl.PlanOf(q, list); p != (impl.Plan{}) || code != impl.ErrBad {
			t.Errorf("PlanOf, %s: %v, %d", what, p, code)
		}
	}
	wrongAgrees(t, what, q, []impl.Value{doc}, impl.ErrBad)
}

// rightQuery holds the calls to it that a query is right; it lets in all documents.
func rightQuery(t *testing.T, what string, q impl.Query) {
	t.Helper()
	if !impl.QueryOK(q) {
		t.Errorf("QueryOK, %s: it is not right", what)
	}
	doc := record("id", num(1)).value()
	x, _ := impl.BuildIndex(def("one", "a"), []impl.Value{doc})
	want := []impl.Value{doc}
	if q.Skip > 0 {
		want = nil
	}
	if list, code := impl.FindDocs(q, []impl.Value{doc}); !slices.Equal(list, want) || code != impl.OK {
		t.Errorf("FindDocs, %s: %v, %d", what, list, code)
	}
	for _, p := range []impl.Plan{{}, {Index: "one", Interval: from("")}} {
		if list, code := impl.RunPlan(p, q, []impl.Value{doc}, []impl.Index{x}); !slices.Equal(list, want) || code != impl.OK {
			t.Errorf("RunPlan, %s: %v, %d", what, list, code)
		}
	}
	if _, code := impl.PlanOf(q, []impl.Index{x}); code != impl.OK {
		t.Errorf("PlanOf, %s: %d", what, code)
	}
	agreeIs(t, what, q, []impl.Value{doc}, agreeDefs()[:3], impl.OK)
}

func TestP8QueryFilters(t *testing.T) {
	yes := term(impl.TeEq, "id", intOf(1))
	rightQuery(t, "no term", impl.Query{Filter: everything()})
	rightQuery(t, "one term", impl.Query{Filter: where(yes)})
	rightQuery(t, "all that there may be", impl.Query{Filter: filter(clause(yes, yes, yes, yes), clause(yes, yes, yes, yes), clause(yes, yes, yes, yes))})
	rightQuery(t, "everything at once", impl.Query{Filter: where(yes), Sort: parts("a", "-b"), Limit: 100, Keep: shortNames(4), Hint: "one"})
	wrongQuery(t, "zero", impl.Query{})
	for what, f := range map[string]impl.Filter{
		"an empty list of clauses": {Any: []impl.Clause{}},
		"four clauses":             filter(clause(), clause(), clause(), clause()),
		"five terms":               where(yes, yes, yes, yes, yes),
		"no operation":             where(term(0, "a", intOf(1))),
		"no path":                  where(term(impl.TeEq, "", intOf(1))),
		"no value":                 where(term(impl.TeEq, "a", boolOf(2))),
		"a wrong term behind":      filter(clause(yes), clause(yes), clause(yes, term(impl.TeSize, "a", intOf(-1)))),
	} {
		wrongQuery(t, what, impl.Query{Filter: f})
	}
}

func TestP8QuerySorts(t *testing.T) {
	longest := strings.Repeat("n", 12) + "." + strings.Repeat("n", 12) + "." + strings.Repeat("n", 12) + "." + strings.Repeat("n", 11)
	for _, paths := range [][]string{{}, {"a"}, {"-a"}, {"id"}, {"-id"}, {"a.b.c.d"}, {longest}, {"a", "b"}, {"-a", "b"}, {"a", "-b"}, {"-id", "-a"}, {"a", "a"}, {"a", "-a"}, {longest, longest}} {
		rightQuery(t, fmt.Sprint("sorted by ", paths), impl.Query{Filter: everything(), Sort: parts(paths...)})
		sortIs(t, []node{record("id", num(1))}, paths, "1")
	}
	rightQuery(t, "an empty list of paths", impl.Query{Filter: everything(), Sort: []impl.Part{}})
	for _, paths := range [][]string{{"a", "b", "c"}, {"a", "a", "a"}, {""}, {"-"}, {"a", ""}, {"", "a"}, {"."}, {"a."}, {".a"}, {"9"}, {"a", "9"}, {"--a"}, {"a b"}, {"a.b.c.d.e"}, {strings.Repeat("n", 13)}, {longest + "n"}, {"a", longest + "n"}, {strings.Repeat("n", impl.MaxText+1)}} {
		wrongQuery(t, fmt.Sprintf("sorted by %.60q", paths), impl.Query{Filter: everything(), Sort: parts(paths...)})
		if list, code := impl.SortDocs([]impl.Value{record("id", num(1)).value()}, parts(paths...)); len(list) != 0 || code != impl.ErrBad {
			t.Errorf("SortDocs by %.60q: %v, %d", paths, list, code)
		}
	}
	for _, n := range []int{3, impl.MaxList, impl.MaxList + 1} {
		wrongQuery(t, fmt.Sprint(n, " paths"), impl.Query{Filter: everything(), Sort: slices.Repeat(parts("a"), n)})
	}
}

func TestP8QueryNumbers(t *testing.T) {
	for _, n := range []int{0, 1, 2, 19, 20, 21, 99, 100} {
		rightQuery(t, fmt.Sprint("Limit ", n), impl.Query{Filter: everything(), Limit: n})
		rightQuery(t, fmt.Sprint("Skip ", n), impl.Query{Filter: everything(), Skip: n})
		rightQuery(t, fmt.Sprint("both ", n), impl.Query{Filter: everything(), Skip: n, Limit: n})
	}
	for _, n := range []int{-1, -2, -100, 101, 102, 1 << 32, math.MaxInt, math.MinInt} {
		wrongQuery(t, fmt.Sprint("Limit ", n), impl.Query{Filter: everything(), Limit: n})
		wrongQuery(t, fmt.Sprint("Skip ", n), impl.Query{Filter: everything(), Skip: n})
		wrongQuery(t, fmt.Sprint("both ", n), impl.Query{Filter: everything(), Skip: n, Limit: n})
	}
}

func TestP8QueryNames(t *testing.T) {
	for _, name := range []string{"a", "_", "Z", "id", "a9", "_9", strings.Repeat("n", 11), strings.Repeat("n", 12)} {
		rightQuery(t, "the name "+name, impl.Query{Filter: everything(), Keep: []string{name}})
		rightQuery(t, "the hint "+name, impl.Query{Filter: everything(), Hint: name})
	}
	rightQuery(t, "no hint", impl.Query{Filter: everything(), Hint: ""})
	rightQuery(t, "a hint at what is there", impl.Query{Filter: everything(), Hint: "one"})
	for _, name := range []string{"9", "9a", "a.b", "a b", " ", " a", "a ", "a-b", "-a", "a\x00", "\x00", "\xc3\xa9", strings.Repeat("n", 13), strings.Repeat("n", impl.MaxName), strings.Repeat("n", impl.MaxText), strings.Repeat("n", impl.MaxText+1)} {
		what := fmt.Sprintf("%.20q", name)
		wrongQuery(t, "the hint "+what, impl.Query{Filter: everything(), Hint: name})
		for _, keep := range [][]string{{name}, {"a", name}, {name, "a"}, {"a", "b", "c", name}} {
			wrongQuery(t, "to keep "+what, impl.Query{Filter: everything(), Keep: keep})
		}
	}
	wrongQuery(t, "to keep an empty name", impl.Query{Filter: everything(), Keep: []string{""}})
	for n := range 5 {
		rightQuery(t, fmt.Sprint(n, " names"), impl.Query{Filter: everything(), Keep: shortNames(n)})
	}
	rightQuery(t, "an empty list of names", impl.Query{Filter: everything(), Keep: []string{}})
	rightQuery(t, "a name four times", impl.Query{Filter: everything(), Keep: []string{"a", "a", "a", "a"}})
	wrongQuery(t, "a name five times", impl.Query{Filter: everything(), Keep: []string{"a", "a", "a", "a", "a"}})
	for _, n := range []int{5, 6, impl.MaxList, impl.MaxList + 1} {
		wrongQuery(t, fmt.Sprint(n, " names"), impl.Query{Filter: everything(), Keep: shortNames(n)})
	}
}

func TestP8MaxRows(t *testing.T) {
	if impl.MaxRows != 20 {
		t.Errorf("MaxRows is %d", impl.MaxRows)
	}
	docs := numbered(80, slices.Repeat([]node{num(1)}, impl.MaxRows)...)
	for _, limit := range []int{0, impl.MaxRows, impl.MaxRows + 1, 100} {
		findIs(t, impl.Query{Filter: everything(), Limit: limit}, docs, docs...)
	}
}
