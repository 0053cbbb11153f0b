package tests

import (
	"fmt"
	"math/rand"
	"slices"
	"testing"

	"loop.example/g00380/impl"
)

// agreeIs holds PlansAgree to a code: with OK the plans do.
func agreeIs(t *testing.T, what string, q impl.Query, docs []impl.Value, defs []impl.Def, code int) {
	t.Helper()
	if agree, c := impl.PlansAgree(q, docs, defs); agree != (code == impl.OK) || c != code {
		t.Errorf("PlansAgree, %s: %v, %d, not %d", what, agree, c, code)
	}
}

// agreeDefs are right ones, which may be asked for together, three at most.
func agreeDefs() []impl.Def {
	return []impl.Def{def("one", "k"), def("two", "-k", "id"), def("three", "no"), def("one", "id")}
}

// wrongAgrees holds PlansAgree to a code that comes of a query or of documents, whatever the
// definitions.
func wrongAgrees(t *testing.T, what string, q impl.Query, docs []impl.Value, code int) {
	t.Helper()
	one := agreeDefs()[0]
	for _, defs := range [][]impl.Def{nil, {}, {one}, agreeDefs()[:3], {one, one}, {{}}, {one, {}}, agreeDefs(), make([]impl.Def, impl.MaxList)} {
		agreeIs(t, fmt.Sprint(what, ", ", len(defs), " definitions"), q, docs, defs, code)
	}
	agreeIs(t, what+", too many definitions", q, docs, make([]impl.Def, impl.MaxList+1), impl.ErrLong)
}

func twoDocs() []impl.Value { return []impl.Value{thing(1, 1), thing(2, 2)} }

func TestP15HowManyDefinitions(t *testing.T) {
	every := impl.Query{Filter: everything()}
	agreeIs(t, "nil", every, twoDocs(), nil, impl.OK)
	agreeIs(t, "none", every, twoDocs(), []impl.Def{}, impl.OK)
	agreeIs(t, "nothing at all", every, nil, nil, impl.OK)
	agreeIs(t, "no documents", every, []impl.Value{}, agreeDefs()[:3], impl.OK)
	for n, code := range map[int]int{1: impl.OK, 2: impl.OK, 3: impl.OK, 4: impl.ErrBad, 5: impl.ErrBad, 100: impl.ErrBad, impl.MaxList: impl.ErrBad, impl.MaxList + 1: impl.ErrLong, 2 * impl.MaxList: impl.ErrLong} {
		for _, d := range agreeDefs() {
			agreeIs(t, fmt.Sprint(n, " alike"), every, twoDocs(), slices.Repeat([]impl.Def{d}, n), code)
			agreeIs(t, fmt.Sprint(n, " alike, no documents"), every, nil, slices.Repeat([]impl.Def{d}, n), code)
		}
		if n > impl.MaxIndexes {
			agreeIs(t, fmt.Sprint(n, " zero ones"), every, twoDocs(), make([]impl.Def, n), code)
		}
	}
	// Names may be alike, and so may paths: each is asked alone.
	for _, defs := range [][]impl.Def{{def("one", "k"), def("one", "k")}, {def("one", "k"), def("one", "-k")}, {def("one", "k"), def("two", "k")}, {def("one", "k"), def("two", "id"), def("one", "k", "id")}, {def("twelve_bytes", "k"), def("_", "a.b.c.d"), def("Z9", "-id")}} {
		agreeIs(t, fmt.Sprint(defs), every, twoDocs(), defs, impl.OK)
	}
}

func TestP15WrongDefinitions(t *testing.T) {
	every, right := impl.Query{Filter: everything()}, def("one", "k")
	for what, d := range map[string]impl.Def{
		"a zero one": {}, "no name": def("", "k"), "a wrong name": def("9", "k"), "a long name": def("thirteenchars", "k"), "no path": def("one"), "a wrong path": def("one", "9"), "a wrong path behind": def("one", "k", "k."), "a path twice": def("one", "k", "k"), "a path both ways": def("one", "k", "-k"),
		"three paths": def("one", "a", "b", "c"), "a path of five": def("one", "a.b.c.d.e"), "paths beyond MaxList": {Name: "one", Parts: slices.Repeat(parts("k"), impl.MaxList+1)},
	} {
		for _, defs := range [][]impl.Def{{d}, {d, right}, {right, d}, {right, d, right}, {right, right, d}, {d, d, d}, {d, d, d, d}} {
			agreeIs(t, what, every, twoDocs(), defs, impl.ErrBad)
			agreeIs(t, what+", no documents", every, nil, defs, impl.ErrBad)
			agreeIs(t, what+", nothing let in", impl.Query{Filter: where(term(impl.TeEq, "k", intOf(9)))}, twoDocs(), defs, impl.ErrBad)
		}
	}
}

// What is too long, then a wrong query and wrong documents, then too many definitions, and then those
// one by one, each with both its faults.
func TestP15FaultsOfPlansInOrder(t *testing.T) {
	every := impl.Query{Filter: everything()}
	great := []impl.Value{record("a", manyValues(20), "b", manyValues(20), "id", num(1)).value()}
	twice := append(slices.Clone(great), great[0])
	full, right, wrong := def("full", "a", "b"), def("right", "a"), impl.Def{}
	for _, row := range []struct {
		q    impl.Query
		docs []impl.Value
		defs []impl.Def
		code int
	}{
		{every, great, []impl.Def{right}, impl.OK}, {every, great, []impl.Def{full}, impl.ErrFull}, {every, great, []impl.Def{right, full}, impl.ErrFull}, {every, great, []impl.Def{full, right}, impl.ErrFull}, {every, great, []impl.Def{right, right, full}, impl.ErrFull}, {every, great, []impl.Def{full, full, full}, impl.ErrFull},
		{every, great, []impl.Def{full, wrong}, impl.ErrFull}, {every, great, []impl.Def{wrong, full}, impl.ErrBad}, {every, great, []impl.Def{right, full, wrong}, impl.ErrFull}, {every, great, []impl.Def{right, wrong, full}, impl.ErrBad}, {every, great, []impl.Def{full, right, wrong}, impl.ErrFull}, {every, great, []impl.Def{wrong, right, full}, impl.ErrBad},
		{every, great, []impl.Def{full, full, full, full}, impl.ErrBad}, {every, great, []impl.Def{full, right, right, wrong}, impl.ErrBad},
		{impl.Query{}, great, []impl.Def{full}, impl.ErrBad}, {every, twice, []impl.Def{full}, impl.ErrBad}, {impl.Query{}, twice, []impl.Def{full, full, full, wrong}, impl.ErrBad}, {impl.Query{}, great, nil, impl.ErrBad}, {every, twice, nil, impl.ErrBad},
		{impl.Query{Filter: everything(), Hint: "full"}, great, []impl.Def{right}, impl.OK}, {impl.Query{Filter: everything(), Hint: "right"}, great, []impl.Def{right, full}, impl.ErrFull},
		{impl.Query{}, great, slices.Repeat([]impl.Def{full}, impl.MaxList), impl.ErrBad}, {impl.Query{}, great, slices.Repeat([]impl.Def{full}, impl.MaxList+1), impl.ErrLong}, {every, copies(impl.MaxList, great[0]), []impl.Def{full}, impl.ErrBad}, {every, copies(impl.MaxList+1, great[0]), []impl.Def{full}, impl.ErrLong}, {impl.Query{}, copies(impl.MaxList+1, great[0]), make([]impl.Def, impl.MaxList+1), impl.ErrLong},
	} {
		agreeIs(t, fmt.Sprintf("%d documents, %d definitions", len(row.docs), len(row.defs)), row.q, row.docs, row.defs, row.code)
	}
	// Twenty documents of which each has room alone.
	docs := values(dealt(fillingKeys(), 12))
	agreeIs(t, "as many keys as there is room for", every, docs, []impl.Def{def("one", "d.v")}, impl.OK)
	docs[19] = listed(19, "0", "1", "2", "3", "4", "5", "6", "7", "8", "9", "90", "91", "92").value()
	agreeIs(t, "too many keys", every, docs, []impl.Def{def("one", "id"), def("two", "d.v")}, impl.ErrFull)
}

// By the index that looks at no document that it need not, and by one that looks at all.
func TestP15PlansOfQueries(t *testing.T) {
	docs := values(planDocs())
	defs := []impl.Def{def("ia", "a"), def("down", "-a", "b"), def("ic", "c", "-id")}
	for _, f := range []impl.Filter{
		everything(), where(term(impl.TeEq, "a", intOf(2))), where(term(impl.TeGt, "a", intOf(1))), where(term(impl.TeLt, "c", intOf(3)), term(impl.TeGt, "c", intOf(2))), filter(clause(term(impl.TeEq, "a", intOf(1))), clause(term(impl.TeEq, "c", intOf(3)))), where(term(impl.TeEq, "a", impl.Value{})), where(term(impl.TeEq, "a", intOf(9))),
		where(term(impl.TeExists, "a", boolOf(0))), where(term(impl.TeNe, "c", intOf(2))), where(term(impl.TeSize, "c", intOf(2))), where(term(impl.TeType, "c", intOf(impl.VaList))),
	} {
		for _, q := range []impl.Query{
			{Filter: f}, {Filter: f, Sort: parts("-a")}, {Filter: f, Sort: parts("b", "-id"), Skip: 1}, {Filter: f, Limit: 1}, {Filter: f, Skip: 1, Limit: 2, Sort: parts("-c")}, {Filter: f, Skip: 100}, {Filter: f, Keep: []string{"b"}}, {Filter: f, Keep: []string{"id", "a", "no", "c"}, Sort: parts("-b"), Limit: 3},
		} {
			for _, hint := range []string{"", "ia", "down", "ic", "none"} {
				q.Hint = hint
				agreeIs(t, fmt.Sprint(q), q, docs, defs, impl.OK)
				for i := range defs {
					agreeIs(t, fmt.Sprint(q, " by ", i), q, docs, defs[i:i+1], impl.OK)
				}
			}
		}
	}
}

func TestP15PlansOfRandomQueries(t *testing.T) {
	r := rand.New(rand.NewSource(1520))
	agreed, full := 0, 0
	for range 1200 {
		docs := poolOf(r, 1+r.Intn(25))
		defs := threeDefs(r, []string{"a", "b", "b.c", "id", "no"})[:r.Intn(4)]
		q := poolQuery(r, docs)
		q.Hint = pick(r, []string{"", "i0", "i1", "no"})
		code := impl.OK
		for _, d := range defs {
			if _, c := impl.BuildIndex(d, values(docs)); code == impl.OK {
				code = c
			}
		}
		agreeIs(t, fmt.Sprint(q, " of ", docs), q, values(docs), defs, code)
		if found, _ := impl.FindDocs(q, values(docs)); code == impl.OK && len(found) > 1 && len(defs) > 0 {
			agreed++
		}
		if code == impl.ErrFull {
			full++
		}
	}
	for _, x := range randomDocs(1521, 600) {
		y := x.with("id", num(7))
		if !y.fits() {
			continue
		}
		paths := append(y.pathsOf("", 4), "a", randomPath(r))
		defs := threeDefs(r, paths)
		docs := []impl.Value{record("a", num(1), "id", num(1)).value(), y.value()}
		if _, code := impl.PlansAgree(impl.Query{Filter: everything()}, docs, defs); code == impl.OK {
			agreed++
			q := impl.Query{Filter: randomFilter(r, y), Sort: parts(pick(r, paths)), Hint: "i2"}
			agreeIs(t, fmt.Sprint(q, " of ", x), q, docs, defs, impl.OK)
		}
	}
	if agreed < 700 {
		t.Errorf("%d agreed, %d were full", agreed, full)
	}
}

// What agrees is told of the documents that are handed in, whatever a store has of them.
func TestP15PlansOfAStoresDocuments(t *testing.T) {
	for seed := range int64(20) {
		run := newStoreRun(rand.New(rand.NewSource(1530+seed)), 0, map[string]int{})
		s := run.store()
		for range 40 {
			c := run.next(impl.CoBegin, impl.CoCommit)
			s, _, _ = impl.Do(s, c)
			if c.Kind != impl.CoFind {
				continue
			}
			for _, x := range s.Colls {
				docs := mustNow(t, s, x.Name)
				agreeIs(t, x.Name, c.Query, docs, x.Defs, impl.OK)
			}
		}
	}
}
