package tests

import (
	"fmt"
	"slices"
	"strings"
	"testing"

	"loop.example/g00380/impl"
)

// planDocs have by a 1, 2, 3 and nothing (null), by b 1 (twice) and 2 (twice), by c lists.
func planDocs() []node {
	return []node{
		record("a", num(1), "b", num(1), "c", many(num(1), num(2)), "id", num(1)), record("a", num(2), "b", num(1), "c", many(num(2), num(3)), "id", num(2)),
		record("a", num(3), "b", num(2), "c", many(), "id", num(3)), record("b", num(2), "id", num(4)),
	}
}

func builtBy(t *testing.T, docs []node, d impl.Def) impl.Index {
	t.Helper()
	x, code := impl.BuildIndex(d, values(docs))
	if code != impl.OK {
		t.Fatalf("BuildIndex by %v: %d", d, code)
	}
	return x
}

func planIs(t *testing.T, what string, q impl.Query, list []impl.Index, want impl.Plan) {
	t.Helper()
	p, code := impl.PlanOf(q, list)
	if p != want || code != impl.OK {
		t.Errorf("PlanOf, %s: %q, %s, %d, code %d, not %q, %s, %d", what, p.Index, shown(p.Interval), p.Looked, code, want.Index, shown(want.Interval), want.Looked)
	}
}

// hintIs asks for the plan by an index that is hinted at.
func hintIs(t *testing.T, x impl.Index, f impl.Filter, i impl.Interval, looked int) {
	t.Helper()
	name := x.Def.Name
	planIs(t, fmt.Sprint("hint ", name, " of ", f), impl.Query{Filter: f, Hint: name}, []impl.Index{x}, impl.Plan{Index: name, Interval: i, Looked: looked})
}

func TestP8PlanByHint(t *testing.T) {
	docs := planDocs()
	a, down, b, c := builtBy(t, docs, def("ia", "a")), builtBy(t, docs, def("down", "-a")), builtBy(t, docs, def("ib", "b", "-a")), builtBy(t, docs, def("ic", "c"))
	two, behindTwo := keyed(2, false)
	fall, behindFall := keyed(2, true)
	eq, gt := where(term(impl.TeEq, "a", intOf(2))), where(term(impl.TeGt, "a", intOf(1)))
	one, behindOne := keyed(1, false)
	risen, _ := keyed(1, true)
	hintIs(t, a, eq, between(two, behindTwo), 1)
	hintIs(t, down, eq, between(fall, behindFall), 1)
	hintIs(t, a, gt, between(behindOne, "\x04"), 2)
	hintIs(t, down, gt, between("\xfc", risen), 2)
	// An index that looks at all, or at none, is hinted at all the same.
	hintIs(t, b, eq, all(), 4)
	hintIs(t, a, everything(), all(), 4)
	hintIs(t, c, everything(), all(), 8)
	hintIs(t, c, where(term(impl.TeEq, "c", intOf(2))), between(two, behindTwo), 2)
	hintIs(t, c, where(term(impl.TeType, "c", intOf(impl.VaList))), between("\x05", "\x06"), 3)
	hintIs(t, a, where(term(impl.TeEq, "a", textOf("x"))), between("\x04x\x00\x00", "\x04x\x00\x01"), 0)
	hintIs(t, b, where(term(impl.TeEq, "b", intOf(1))), between(one, behindOne), 2)
	empty := impl.Index{Def: def("ia", "a"), Tree: impl.NewTree()}
	hintIs(t, empty, eq, between(two, behindTwo), 0)
	hintIs(t, empty, everything(), all(), 0)
	// The one that is hinted at counts, wherever it stands, and whatever the others look at.
	for _, list := range [][]impl.Index{{a, down, b}, {b, a, down}, {down, b, a}} {
		planIs(t, "hint ib", impl.Query{Filter: eq, Hint: "ib"}, list, impl.Plan{Index: "ib", Interval: all(), Looked: 4})
		planIs(t, "hint down", impl.Query{Filter: eq, Hint: "down"}, list, impl.Plan{Index: "down", Interval: between(fall, behindFall), Looked: 1})
	}
}

func TestP8PlanWithoutHint(t *testing.T) {
	docs := planDocs()
	a, down, b, c := builtBy(t, docs, def("ia", "a")), builtBy(t, docs, def("down", "-a")), builtBy(t, docs, def("ib", "b", "-a")), builtBy(t, docs, def("ic", "c"))
	eq := func(path string, n int) impl.Term { return term(impl.TeEq, path, intOf(n)) }
	two, behindTwo := keyed(2, false)
	fall, behindFall := keyed(2, true)
	only := between(two, behindTwo)
	byA, byDown := impl.Plan{Index: "ia", Interval: only, Looked: 1}, impl.Plan{Index: "down", Interval: between(fall, behindFall), Looked: 1}
	for _, hint := range []string{"", "none", "a", "IA", "ia_"} {
		ask := func(f impl.Filter, want impl.Plan, list ...impl.Index) {
			t.Helper()
			planIs(t, fmt.Sprintf("hint %q, %v", hint, f), impl.Query{Filter: f, Hint: hint}, list, want)
		}
		ask(where(eq("a", 2)), byA, a)
		ask(where(eq("a", 2)), byA, b, a, c)
		// The fewest, wherever it stands; of as few the first.
		ask(where(eq("a", 2), eq("b", 2)), byA, a, b)
		ask(where(eq("b", 2), eq("a", 2)), byA, b, a)
		ask(where(eq("b", 2), eq("a", 2), eq("c", 1)), byA, b, a, c)
		ask(where(eq("a", 2), eq("b", 2)), byA, a, down, b)
		ask(where(eq("a", 2), eq("b", 2)), byA, b, a, down)
		ask(where(eq("a", 2), eq("b", 2)), byDown, down, a, b)
		ask(where(eq("a", 2), eq("b", 2)), byDown, b, down, a)
		ask(where(eq("b", 2), eq("c", 2)), impl.Plan{Index: "ib", Interval: only, Looked: 2}, b, c)
		ask(where(eq("b", 2), eq("c", 2)), impl.Plan{Index: "ic", Interval: only, Looked: 2}, c, b)
		ask(where(eq("b", 2)), impl.Plan{Index: "ib", Interval: only, Looked: 2}, a, b, c)
		// None at all is fewer than all.
		ask(where(eq("a", 2), term(impl.TeEq, "b", textOf(""))), impl.Plan{Index: "ib", Interval: between("\x04\x00\x00", "\x04\x00\x01")}, a, b)
		// Of those that look at all there is no plan: neither of an interval that is open, nor of others.
		ask(everything(), impl.Plan{}, a, b, c)
		ask(where(eq("no", 2)), impl.Plan{}, a, b, c)
		ask(where(term(impl.TeNe, "a", intOf(2))), impl.Plan{}, a, down)
		ask(where(term(impl.TeType, "b", intOf(impl.VaInt))), impl.Plan{}, b, a)
		ask(where(term(impl.TeGte, "b", intOf(1))), impl.Plan{}, b)
		// The second path of an index says nothing.
		ask(where(eq("a", 2)), impl.Plan{}, b)
		ask(filter(clause(eq("a", 2)), clause(eq("b", 2))), impl.Plan{}, a, b)
		ask(everything(), impl.Plan{})
		ask(where(eq("a", 2)), impl.Plan{})
		// An empty index can't look at fewer entries than it has.
		ask(where(eq("a", 2)), impl.Plan{}, impl.Index{Def: def("ia", "a"), Tree: impl.NewTree()})
		ask(where(eq("a", 2)), byDown, impl.Index{Def: def("ia", "a"), Tree: impl.NewTree()}, down)
	}
}

// It is how many that count, not which part: one of many looks at more than two of two.
func TestP8PlanCountsEntries(t *testing.T) {
	var docs []node
	for id := range 10 {
		docs = append(docs, record("a", num(id/5), "b", many(num(id), num(id), num(id+1)), "id", num(id)))
	}
	a, b := builtBy(t, docs, def("ia", "a")), builtBy(t, docs, def("ib", "b"))
	f := where(term(impl.TeEq, "a", intOf(0)), term(impl.TeLt, "b", intOf(3)))
	_, high := keyed(0, false)
	zero, _ := keyed(0, false)
	three, _ := keyed(3, false)
	// By b entries of 0, 1, 1, 2, 2: five of 30, as many as by a of 10.
	byA, byB := impl.Plan{Index: "ia", Interval: between(zero, high), Looked: 5}, impl.Plan{Index: "ib", Interval: between("\x03", three), Looked: 5}
	planIs(t, "a ahead", impl.Query{Filter: f}, []impl.Index{a, b}, byA)
	planIs(t, "b ahead", impl.Query{Filter: f}, []impl.Index{b, a}, byB)
	fewer := where(term(impl.TeEq, "a", intOf(0)), term(impl.TeLt, "b", intOf(2)))
	two, _ := keyed(2, false)
	planIs(t, "fewer by b", impl.Query{Filter: fewer}, []impl.Index{a, b}, impl.Plan{Index: "ib", Interval: between("\x03", two), Looked: 3})
	more := where(term(impl.TeEq, "a", intOf(0)), term(impl.TeLte, "b", intOf(3)))
	planIs(t, "more by b", impl.Query{Filter: more}, []impl.Index{b, a}, byA)
}

// wrongIndexes holds PlanOf and RunPlan to it that a list of indexes isn't right.
func wrongIndexes(t *testing.T, what string, list []impl.Index, code int) {
	t.Helper()
	doc := record("id", num(1)).value()
	for _, q := range []impl.Query{{Filter: everything()}, {Filter: everything(), Hint: "one"}, {Filter: everything(), Hint: "none"}, {}} {
		if p, c := impl.PlanOf(q, list); p != (impl.Plan{}) || c != code {
			t.Errorf("PlanOf, %s: %v, %d, not %d", what, p, c, code)
		}
		for _, p := range []impl.Plan{{}, {Index: "one"}, {Index: "none"}} {
			for _, docs := range [][]impl.Value{nil, {doc}, {doc, doc}} {
				if found, c := impl.RunPlan(p, q, docs, list); len(found) != 0 || c != code {
					t.Errorf("RunPlan, %s: %v, %d, not %d", what, found, c, code)
				}
			}
		}
	}
}

func TestP8ListsOfIndexes(t *testing.T) {
	named := func(name string) impl.Index { return impl.Index{Def: def(name, "a"), Tree: impl.NewTree()} }
	one, two, three := named("one"), named("two"), named("three")
	for _, list := range [][]impl.Index{nil, {}, {one}, {one, two}, {three, two, one}, {named("a"), named("A"), named("aa")}} {
		if p, code := impl.PlanOf(impl.Query{Filter: everything()}, list); p != (impl.Plan{}) || code != impl.OK {
			t.Errorf("PlanOf of %d indexes: %v, %d", len(list), p, code)
		}
	}
	wrongIndexes(t, "four", []impl.Index{one, two, three, named("four")}, impl.ErrBad)
	wrongIndexes(t, "twice", []impl.Index{one, one}, impl.ErrBad)
	wrongIndexes(t, "twice, of other paths", []impl.Index{one, {Def: def("one", "b"), Tree: tree(9, "3 a0")}}, impl.ErrBad)
	wrongIndexes(t, "twice at the ends", []impl.Index{one, two, one}, impl.ErrBad)
	wrongIndexes(t, "twice at the end", []impl.Index{one, two, two}, impl.ErrBad)
	wrongIndexes(t, "three times", []impl.Index{two, two, two}, impl.ErrBad)
	var many []impl.Index
	for i := range impl.MaxList + 1 {
		many = append(many, named(fmt.Sprint("n", i)))
	}
	wrongIndexes(t, "MaxList", many[:impl.MaxList], impl.ErrBad)
	wrongIndexes(t, "beyond MaxList", many, impl.ErrLong)
	wrongIndexes(t, "zero ones beyond MaxList", make([]impl.Index, impl.MaxList+1), impl.ErrLong)
	for what, x := range map[string]impl.Index{
		"zero": {}, "no tree": {Def: def("x", "a")}, "no definition": {Tree: impl.NewTree()}, "no name": named(""), "a name of 13": named(strings.Repeat("n", 13)),
		"no path": {Def: def("x"), Tree: impl.NewTree()}, "three paths": {Def: def("x", "a", "b", "c"), Tree: impl.NewTree()}, "paths alike": {Def: def("x", "a", "-a"), Tree: impl.NewTree()}, "a wrong path": {Def: def("x", "9"), Tree: impl.NewTree()},
		"falling keys": {Def: def("x", "a"), Tree: tree(9, "1 b0 a0")}, "no page": {Def: def("x", "a"), Tree: impl.Tree{Next: 2}}, "an Id of 10000": {Def: def("x", "a"), Tree: tree(9, "1 a10000")}, "61 pages": {Def: def("x", "a"), Tree: manyPages(61, 1, 99)},
	} {
		for _, list := range [][]impl.Index{{x}, {x, one}, {one, x}, {one, two, x}} {
			wrongIndexes(t, what, list, impl.ErrBad)
		}
	}
}

// What an index has is its own affair: keys and Ids that are no document's are looked at, too.
func TestP8PlansOfOtherKeys(t *testing.T) {
	x := impl.Index{Def: def("one", "a"), Tree: tree(9, "4 0 \x03x1 \x03y9999|2 \x05z3 a7")}
	f := where(term(impl.TeType, "a", intOf(impl.VaInt)))
	planIs(t, "odd keys", impl.Query{Filter: f}, []impl.Index{x}, impl.Plan{Index: "one", Interval: between("\x03", "\x04"), Looked: 2})
	most := impl.Index{Def: def("one", "a"), Tree: manyPages(impl.MaxPages, impl.MaxPage, 99)}
	planIs(t, "the most", impl.Query{Filter: everything(), Hint: "one"}, []impl.Index{most}, impl.Plan{Index: "one", Interval: all(), Looked: 240})
	docs := numbered(1, num(5), num(6), num(7))
	p := impl.Plan{Index: "one", Interval: between("\x03", "\x06")}
	list, code := impl.RunPlan(p, impl.Query{Filter: everything()}, values(docs), []impl.Index{x})
	if !slices.Equal(list, values([]node{docs[0], docs[2]})) || code != impl.OK {
		t.Errorf("RunPlan over odd keys: %s, %d", idsOf(list), code)
	}
}
