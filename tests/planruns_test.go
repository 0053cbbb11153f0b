package tests

import (
	"fmt"
	"math/rand"
	"slices"
	"strings"
	"testing"

	"loop.example/g00380/impl"
)

func runIs(t *testing.T, what string, p impl.Plan, q impl.Query, docs []node, list []impl.Index, want string) {
	t.Helper()
	if found, code := impl.RunPlan(p, q, values(docs), list); idsOf(found) != want || code != impl.OK {
		t.Errorf("RunPlan, %s: %s, %d, not %s", what, idsOf(found), code, want)
	}
}

// A plan looks at the documents of which its interval has an entry, and at no others.
func TestP8RunLooksAtTheInterval(t *testing.T) {
	docs := planDocs()
	a, b, c := builtBy(t, docs, def("ia", "a")), builtBy(t, docs, def("ib", "b", "-a")), builtBy(t, docs, def("ic", "c"))
	list := []impl.Index{a, b, c}
	every := impl.Query{Filter: everything()}
	one, two := num(1).key(), num(2).key()
	for _, r := range []struct {
		p    impl.Plan
		want string
	}{
		{impl.Plan{Index: "ia", Interval: all()}, "1 2 3 4"},
		{impl.Plan{Index: "ia"}, ""},
		{impl.Plan{Index: "ia", Interval: between("", "\x03")}, "4"},
		{impl.Plan{Index: "ia", Interval: between(one, two)}, "1"},
		{impl.Plan{Index: "ia", Interval: between(one, two+"\x00")}, "1 2"},
		{impl.Plan{Index: "ia", Interval: between(two, one)}, ""},
		{impl.Plan{Index: "ia", Interval: openWith(two, one)}, "2 3"},
		{impl.Plan{Index: "ia", Interval: from("\x04")}, ""},
		{impl.Plan{Index: "ia", Interval: from("\xff")}, ""},
		{impl.Plan{Index: "ib", Interval: between(one, two)}, "1 2"},
		{impl.Plan{Index: "ib", Interval: from(two)}, "3 4"},
		{impl.Plan{Index: "ib", Interval: from(one + num(2).directedKey(true) + "\x00")}, "1 3 4"},
		// Each document once, however many entries it has there.
		{impl.Plan{Index: "ic", Interval: between("\x03", "\x04")}, "1 2"},
		{impl.Plan{Index: "ic", Interval: between("\x03", "\x06")}, "1 2 3"},
		{impl.Plan{Index: "ic", Interval: from("\x05")}, "1 2 3"},
		// Looked is told, not asked.
		{impl.Plan{Index: "ia", Interval: between(one, two), Looked: 77}, "1"},
		{impl.Plan{Index: "ia", Interval: between(one, two), Looked: -1}, "1"},
		// Without an Index nothing else counts.
		{impl.Plan{}, "1 2 3 4"},
		{impl.Plan{Interval: between(one, two), Looked: 5}, "1 2 3 4"},
		{impl.Plan{Interval: from("\xff")}, "1 2 3 4"},
	} {
		runIs(t, fmt.Sprintf("%s %s", r.p.Index, shown(r.p.Interval)), r.p, every, docs, list, r.want)
	}
	// What is looked at is filtered, sorted, cut and kept like all documents.
	p := impl.Plan{Index: "ic", Interval: from("\x03")}
	runIs(t, "filtered", p, impl.Query{Filter: where(term(impl.TeGt, "a", intOf(1)))}, docs, list, "2 3")
	runIs(t, "sorted", p, impl.Query{Filter: everything(), Sort: parts("-a")}, docs, list, "3 2 1")
	runIs(t, "cut", p, impl.Query{Filter: everything(), Skip: 1, Limit: 1}, docs, list, "2")
	found, code := impl.RunPlan(p, impl.Query{Filter: everything(), Keep: []string{"b"}, Limit: 1}, values(docs), list)
	if !slices.Equal(found, values([]node{record("b", num(1), "id", num(1))})) || code != impl.OK {
		t.Errorf("RunPlan with a name to keep: %q, %d", texts(t, found), code)
	}
	// A Hint is PlanOf's, not RunPlan's.
	runIs(t, "hinted at another", p, impl.Query{Filter: everything(), Hint: "ia"}, docs, list, "1 2 3")
	runIs(t, "hinted at one, without a plan", impl.Plan{}, impl.Query{Filter: where(term(impl.TeEq, "a", intOf(2))), Hint: "ia"}, docs, list, "2")
}

// The index need not be one of these documents: its entries' Ids tell which ones are looked at.
func TestP8RunOverOtherDocuments(t *testing.T) {
	x := builtBy(t, planDocs(), def("ia", "a"))
	others := []node{record("id", num(0)), record("a", num(9), "id", num(2)), record("id", num(4)), record("a", num(1), "id", num(5))}
	runIs(t, "other documents", impl.Plan{Index: "ia", Interval: all()}, impl.Query{Filter: everything()}, others, []impl.Index{x}, "2 4")
	runIs(t, "other documents", impl.Plan{Index: "ia", Interval: from("\x03")}, impl.Query{Filter: everything()}, others, []impl.Index{x}, "2")
	runIs(t, "no document", impl.Plan{Index: "ia", Interval: all()}, impl.Query{Filter: everything()}, nil, []impl.Index{x}, "")
	empty := impl.Index{Def: def("ia", "a"), Tree: impl.NewTree()}
	runIs(t, "an empty index", impl.Plan{Index: "ia", Interval: all()}, impl.Query{Filter: everything()}, others, []impl.Index{empty}, "")
	runIs(t, "no index, no plan", impl.Plan{}, impl.Query{Filter: everything()}, others, nil, "0 2 4 5")
}

func TestP8RunCodes(t *testing.T) {
	docs := planDocs()
	a, b := builtBy(t, docs, def("ia", "a")), builtBy(t, docs, def("ib", "b"))
	list := []impl.Index{a, b}
	for _, name := range []string{"none", "a", "IA", "ia ", "9", " ", "a.b", strings.Repeat("n", 13), strings.Repeat("n", impl.MaxText+1)} {
		for _, indexes := range [][]impl.Index{nil, {a}, list} {
			found, code := impl.RunPlan(impl.Plan{Index: name, Interval: all()}, impl.Query{Filter: everything()}, values(docs), indexes)
			if len(found) != 0 || code != impl.ErrName {
				t.Errorf("RunPlan by %.20q: %v, %d", name, found, code)
			}
		}
	}
	// The name is asked for behind all that may be wrong, and that behind all that is too long.
	twice := []impl.Value{docs[0].value(), docs[0].value()}
	long, longList := make([]impl.Value, impl.MaxList+1), make([]impl.Index, impl.MaxList+1)
	for _, r := range []struct {
		what string
		q    impl.Query
		docs []impl.Value
		list []impl.Index
		code int
	}{
		{"a wrong query", impl.Query{}, values(docs), list, impl.ErrBad},
		{"wrong documents", impl.Query{Filter: everything()}, twice, list, impl.ErrBad},
		{"wrong indexes", impl.Query{Filter: everything()}, values(docs), []impl.Index{a, a}, impl.ErrBad},
		{"all wrong", impl.Query{}, twice, []impl.Index{a, a}, impl.ErrBad},
		{"too long a list of documents", impl.Query{}, long, []impl.Index{a, a}, impl.ErrLong},
		{"too long a list of indexes", impl.Query{}, twice, longList, impl.ErrLong},
		{"both too long", impl.Query{}, long, longList, impl.ErrLong},
	} {
		for _, p := range []impl.Plan{{}, {Index: "ia", Interval: all()}, {Index: "none"}, {Index: "9"}} {
			if found, code := impl.RunPlan(p, r.q, r.docs, r.list); len(found) != 0 || code != r.code {
				t.Errorf("RunPlan, %s: %v, %d, not %d", r.what, found, code, r.code)
			}
		}
	}
	// Texts within a plan are not bounded.
	far := strings.Repeat("\xff", impl.MaxText+1)
	runIs(t, "a High beyond MaxText", impl.Plan{Index: "ia", Interval: between("", far)}, impl.Query{Filter: everything()}, docs, list, "1 2 3 4")
	runIs(t, "a Low beyond MaxText", impl.Plan{Index: "ia", Interval: from(far)}, impl.Query{Filter: everything()}, docs, list, "")
}

// A theorem counts what the plans it was held to were like.
type theorem struct {
	hinted, chosen, none, fewer int
}

// holds asks every index, the one that is chosen, and none, for what a query has.
func (th *theorem) holds(t *testing.T, q impl.Query, docs []node, list []impl.Index) {
	t.Helper()
	want, code := impl.FindDocs(q, values(docs))
	if code != impl.OK {
		t.Fatalf("FindDocs of %v: %d", q, code)
	}
	hints := []string{"", "none"}
	for _, x := range list {
		hints = append(hints, x.Def.Name)
	}
	for _, hint := range hints {
		q.Hint = hint
		p, code := impl.PlanOf(q, list)
		th.isPlan(t, q, list, p)
		found, c := impl.RunPlan(p, q, values(docs), list)
		if !slices.Equal(found, want) || code != impl.OK || c != impl.OK {
			t.Fatalf("%v by %v of %v: %s, %d, %d, not %s", q, p, docs, idsOf(found), code, c, idsOf(want))
		}
	}
	found, code := impl.RunPlan(impl.Plan{}, q, values(docs), list)
	if !slices.Equal(found, want) || code != impl.OK {
		t.Fatalf("%v without a plan: %s, %d, not %s", q, idsOf(found), code, idsOf(want))
	}
}

// isPlan holds a plan to chapter 8's word on which one it is.
func (th *theorem) isPlan(t *testing.T, q impl.Query, list []impl.Index, p impl.Plan) {
	t.Helper()
	want, hinted := impl.Plan{}, false
	for _, x := range slices.Backward(list) {
		y := impl.Plan{Index: x.Def.Name, Interval: spanned(q.Filter, x.Def.Parts[0])}
		size := 0
		for _, page := range x.Tree.Pages {
			for _, e := range page.Entries {
				size++
				if impl.IntervalHas(y.Interval, e.Key) {
					y.Looked++
				}
			}
		}
		switch {
		case q.Hint == x.Def.Name:
			want, hinted = y, true
		case !hinted && y.Looked < size && (want.Index == "" || y.Looked <= want.Looked):
			want = y
		}
		if q.Hint == x.Def.Name && y.Looked < size {
			th.fewer++
		}
	}
	if p != want {
		t.Errorf("PlanOf of %v: %q, %s, %d, not %q, %s, %d", q, p.Index, shown(p.Interval), p.Looked, want.Index, shown(want.Interval), want.Looked)
	}
	switch {
	case hinted:
		th.hinted++
	case p.Index != "":
		th.chosen++
	default:
		th.none++
	}
}

func (th *theorem) saw(t *testing.T, n int) {
	t.Helper()
	if th.hinted < n || th.chosen < n || th.none < n || th.fewer < n {
		t.Errorf("the plans were these only: %+v", *th)
	}
}

// threeDefs are of one path and of two.
func threeDefs(r *rand.Rand, paths []string) []impl.Def {
	var list []impl.Def
	for i := range impl.MaxIndexes {
		d := pick(r, defsOf(r, paths))
		d.Name = fmt.Sprint("i", i)
		list = append(list, d)
	}
	return list
}

// builtIndexes are those of the definitions for which there is room.
func builtIndexes(defs []impl.Def, docs []node) []impl.Index {
	var list []impl.Index
	for _, d := range defs {
		if x, code := impl.BuildIndex(d, values(docs)); code == impl.OK {
			list = append(list, x)
		}
	}
	return list
}

func TestP8TheoremOfPlans(t *testing.T) {
	r := rand.New(rand.NewSource(83))
	th := &theorem{}
	for range 800 {
		docs := poolOf(r, 1+r.Intn(25))
		list := builtIndexes(threeDefs(r, []string{"a", "b", "b.c", "id", "no"}), docs)
		for range 4 {
			th.holds(t, poolQuery(r, docs), docs, list[:r.Intn(len(list)+1)])
		}
	}
	th.saw(t, 500)
}

// Of documents of all kinds of values, and of paths that lead through them.
func TestP8TheoremOfRandomDocuments(t *testing.T) {
	r := rand.New(rand.NewSource(84))
	th := &theorem{}
	list := randomDocs(85, 1200)
	for ; len(list) >= 4; list = list[4:] {
		var docs []node
		paths := []string{"a", randomPath(r)}
		for id, x := range list[:4] {
			if y := x.with("id", num(id)); y.fits() {
				docs = append(docs, y)
				paths = append(paths, y.pathsOf("", 4)...)
			}
		}
		indexes := builtIndexes(threeDefs(r, paths), docs)
		for range 4 {
			q := impl.Query{Filter: randomFilter(r, pick(r, docs)), Sort: parts(pick(r, paths), "-"+pick(r, paths))}
			if len(indexes) > 0 && r.Intn(2) == 0 {
				q.Filter = where(poolTerm(r, docs, pick(r, allTerms), pick(r, indexes).Def.Parts[0].Path))
			}
			th.holds(t, q, docs, indexes)
		}
	}
	th.saw(t, 100)
}

// Of each term by itself, and of each pair in one clause and in two, over values of all kinds.
func TestP8TheoremOfEachTerm(t *testing.T) {
	kinds := []node{{}, {kind: impl.VaBool}, {kind: impl.VaBool, n: 1}, num(-1), num(0), num(1), word(""), word("\x00"), word("\xff"), many(), many(num(0)), many(num(1), node{}), record(), record("b", num(0))}
	docs := append(numbered(1, kinds...), record("id", num(99)))
	list := builtIndexes([]impl.Def{def("up", "a"), def("down", "-a", "id"), def("b", "-a.b", "-a")}, docs)
	var terms []impl.Term
	for _, op := range allTerms {
		for _, v := range append(kinds, num(5), many(num(0), word(""))) {
			for _, path := range []string{"a", "a.b"} {
				if x := term(op, path, v.value()); impl.TermOK(x) {
					terms = append(terms, x)
				}
			}
		}
	}
	th := &theorem{}
	for i, x := range terms {
		th.holds(t, impl.Query{Filter: where(x)}, docs, list)
		y := terms[(i*7+3)%len(terms)]
		th.holds(t, impl.Query{Filter: where(x, y)}, docs, list)
		th.holds(t, impl.Query{Filter: filter(clause(x), clause(y)), Sort: parts("-a")}, docs, list)
	}
	if len(list) != 3 || len(terms) < 200 {
		t.Errorf("%d indexes, %d terms", len(list), len(terms))
	}
	th.saw(t, 100)
}

// Two terms on one path may be pleased by two items of one list: where their intervals meet there
// is no key, and still the document is let in.
func TestP8TermsPleasedByUnlikeItems(t *testing.T) {
	docs := numbered(1, many(num(1), num(9)), num(5), many(num(9)), many(num(1)))
	for _, path := range []string{"a", "-a"} {
		list := builtIndexes([]impl.Def{def("ia", path)}, docs)
		for _, f := range []impl.Filter{
			where(term(impl.TeLt, "a", intOf(3)), term(impl.TeGt, "a", intOf(7))),
			where(term(impl.TeGt, "a", intOf(7)), term(impl.TeLt, "a", intOf(3))),
			where(term(impl.TeEq, "a", intOf(1)), term(impl.TeEq, "a", intOf(9))),
		} {
			q := impl.Query{Filter: f}
			p, _ := impl.PlanOf(q, list)
			if p.Index != "ia" {
				t.Errorf("PlanOf of %v: %v", f, p)
			}
			runIs(t, fmt.Sprint(f), p, q, docs, list, "1")
		}
	}
}
