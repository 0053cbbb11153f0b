package tests

import (
	"fmt"
	"slices"
	"testing"

	"loop.example/g00380/impl"
)

func settledIs(t *testing.T, what string, s impl.Store, want bool) {
	t.Helper()
	if ok, code := impl.Settled(s); ok != want || code != impl.OK {
		t.Errorf("Settled, %s, of %s: %v, %d, not %v", what, shownStore(s), ok, code, want)
	}
}

func noPivotIs(t *testing.T, what string, s impl.Store, want bool) {
	t.Helper()
	if ok, code := impl.NoPivot(s); ok != want || code != impl.OK {
		t.Errorf("NoPivot, %s, of %s: %v, %d, not %v", what, shownStore(s), ok, code, want)
	}
}

// sizesAre holds SizesOf to how many transactions, Done, versions, documents now.
func sizesAre(t *testing.T, what string, s impl.Store, want ...int) {
	t.Helper()
	if list, code := impl.SizesOf(s); !slices.Equal(list, want) || code != impl.OK {
		t.Errorf("SizesOf, %s, of %s: %v, %d, not %v", what, shownStore(s), list, code, want)
	}
}

// wrongAudit holds the audit to it that a store isn't right.
func wrongAudit(t *testing.T, what string, s impl.Store) {
	t.Helper()
	if ok, code := impl.Settled(s); ok || code != impl.ErrBad {
		t.Errorf("Settled, %s: %v, %d", what, ok, code)
	}
	if ok, code := impl.NoPivot(s); ok || code != impl.ErrBad {
		t.Errorf("NoPivot, %s: %v, %d", what, ok, code)
	}
	if list, code := impl.SizesOf(s); len(list) != 0 || code != impl.ErrBad {
		t.Errorf("SizesOf, %s: %v, %d", what, list, code)
	}
}

// rightAudit holds the audit of a right store to the document in other words.
func rightAudit(t *testing.T, what string, s impl.Store) {
	t.Helper()
	settledIs(t, what, s, len(s.Txns) > 0 || isBare(s))
	noPivotIs(t, what, s, !slices.ContainsFunc(s.Done, func(d impl.Done) bool { return pivots(t, d, s.Done) }))
	versions, docs := 0, 0
	for _, c := range s.Colls {
		for _, x := range c.Chains {
			versions += len(x.Versions)
			if !x.Versions[len(x.Versions)-1].Gone {
				docs++
			}
		}
	}
	sizesAre(t, what, s, len(s.Txns), len(s.Done), versions, docs)
}

// isBare asks whether a store has documents, and else nothing.
func isBare(s impl.Store) bool {
	for _, c := range s.Colls {
		for _, x := range c.Chains {
			if len(x.Versions) > 1 || x.Versions[0].Gone {
				return false
			}
		}
	}
	return len(s.Done) == 0
}

// pivots asks whether d is one between others of a list. A time tells which one it is itself.
func pivots(t *testing.T, d impl.Done, list []impl.Done) bool {
	t.Helper()
	in, out := false, false
	for _, o := range list {
		if o.At != d.At && o.At > d.Snap && d.At > o.Snap {
			in = in || hangs(t, o.Reads, d.Changes)
			out = out || hangs(t, d.Reads, o.Changes)
		}
	}
	return in && out
}

// audited is a talk behind each line of which the audit is held to the document, and nobody is a pivot.
func audited(t *testing.T, s impl.Store, lines ...string) impl.Store {
	t.Helper()
	for _, line := range lines {
		s = talk(t, s, line)
		rightAudit(t, line, s)
		settledIs(t, line, s, true)
		noPivotIs(t, line, s, true)
	}
	return s
}

func TestP15SettledNewStores(t *testing.T) {
	for n := range impl.MaxColls {
		s, code := impl.NewStore(shortNames(n + 1))
		if code != impl.OK {
			t.Fatalf("NewStore of %d: %d", n+1, code)
		}
		settledIs(t, "a new one", s, true)
	}
	settledIs(t, "a new world's", impl.NewWorld().Store, true)
	settledIs(t, "the last Clock", storeOf(impl.MaxClock, coll("")), true)
	settledIs(t, "an index", storeOf(0, coll("", def("one", "k"))), true)
}

// Whatever was committed, changed, taken away or aborted: with nothing open only documents are kept.
func TestP15SettledBehindCommands(t *testing.T) {
	s := audited(t, fresh(), "0 insert 1=1: ok 1", "0 inc *: ok 1", "0 insert 2=2: ok 1", "3 inc ?2: ok 1", "2 insert more.1=1: ok 1", "0 delete ?1: ok 1", "0 find *: ok 1 2=3", "0 count *more: ok 1", "0 insert 2=2: twice", "0 index docs.one k: ok 0", "0 insert 20=1: range", "0 commit: state")
	sizesAre(t, "alone", s, 0, 0, 2, 2)
	s = audited(t, s, "1 begin: ok 0", "2 begin: ok 0", "1 find *: ok 1 2=3", "1 inc *: ok 1", "2 insert 3=3: ok 1", "0 inc *more: ok 1", "1 commit: ok 0", "0 delete *: ok 1", "0 delete *more: ok 1", "2 find ?3: ok 1 3=3", "2 commit: ok 0")
	sizesAre(t, "behind two", s, 0, 0, 1, 1)
	s = audited(t, s, "1 begin: ok 0", "2 begin: ok 0", "1 inc *: ok 1", "0 inc *: ok 1", "1 commit: conflict", "0 delete *: ok 1", "2 find *: ok 1 3=3", "2 abort: ok 0")
	sizesAre(t, "behind a refused one and an abort", s, 0, 0, 0, 0)
	if !isBare(s) {
		t.Errorf("%s keeps more than documents", shownStore(s))
	}
}

func TestP15SettledWithOneOpen(t *testing.T) {
	for what, s := range map[string]impl.Store{
		"nothing": storeOf(9, coll("")), "documents": storeOf(9, coll("1 2=1|5 9=3")), "two versions": storeOf(9, coll("1 2=1 3=2")), "one that is Gone": storeOf(9, coll("1 2-")), "all of it": dirty(), "Done": withDone(storeOf(9, coll("")), "0 3 ?1"),
	} {
		for _, texts := range [][]string{{"0 0"}, {"3 8"}, {"1 0 ?1 2=7"}, {"0 3", "1 8"}, {"0 8", "1 0", "2 5", "3 8"}} {
			settledIs(t, fmt.Sprint(what, " with ", texts), withTxns(s, texts...), true)
		}
	}
}

func TestP15NotSettled(t *testing.T) {
	for what, s := range map[string]impl.Store{
		"a Done": withDone(storeOf(9, coll("1 2=1")), "0 3 ?1"), "a Done of nothing": withDone(storeOf(9, coll("")), "0 9"), "thirty": {Clock: 99, Colls: []impl.Coll{coll("")}, Done: manyDones(impl.MaxDone)},
		"two versions": storeOf(9, coll("1 2=1 3=2")), "twelve": storeOf(100, allChains(impl.MaxVersions)), "the last one of two Gone": storeOf(9, coll("1 2=1 3-")), "the first one of two Gone": storeOf(9, coll("1 2- 3=1")),
		"one that is Gone": storeOf(9, coll("1 2-")), "behind another chain": storeOf(9, coll("1 2=1|3 3=3|5 2-")), "ahead of another chain": storeOf(9, coll("1 2=1 4=1|3 3=3")), "between": storeOf(9, coll("1 2=1|3 3-|5 2=1")),
		"in the first of three": storeOf(9, named("a", "1 2-"), coll("1 2=1"), named("more", "1 2=1")), "in the second": storeOf(9, named("a", "1 2=1"), coll("1 2=1 3=1"), named("more", "")), "in the last": storeOf(9, named("a", ""), coll("1 2=1"), named("more", "0 2=1|1 9-")),
		"all of it": dirty(),
	} {
		settledIs(t, what, s, false)
		settledIs(t, what+", with one open", withTxns(s, "2 1"), true)
	}
	for _, s := range []impl.Store{storeOf(9, coll("1 2=1|5 9=3|19 1=1")), storeOf(9, named("a", ""), coll("0 9=1"), named("more", "0 1=1|7 2=2")), {Clock: 3, Colls: []impl.Coll{{Name: "docs", Chains: []impl.Chain{}}}, Txns: []impl.Txn{}, Done: []impl.Done{}}} {
		settledIs(t, "documents alone", s, true)
	}
}

func TestP15Sizes(t *testing.T) {
	sizesAre(t, "a new one", fresh(), 0, 0, 0, 0)
	sizesAre(t, "a new world's", impl.NewWorld().Store, 0, 0, 0, 0)
	for _, row := range []struct {
		s    impl.Store
		want []int
	}{
		{storeOf(9, coll("1 2=1")), []int{0, 0, 1, 1}}, {storeOf(9, coll("1 2=1|5 3=1")), []int{0, 0, 2, 2}}, {storeOf(9, coll("1 2=1 3=2 9=3|5 3=1")), []int{0, 0, 4, 2}},
		{storeOf(9, coll("1 2-")), []int{0, 0, 1, 0}}, {storeOf(9, coll("1 2=1 3-")), []int{0, 0, 2, 0}}, {storeOf(9, coll("1 2=1 3- 4=1")), []int{0, 0, 3, 1}}, {storeOf(9, coll("1 2=1 3-|2 1=1|3 4- 5=1 6-")), []int{0, 0, 6, 1}},
		{storeOf(9, named("a", "1 2=1 3=2"), coll("1 2=1|2 4-"), named("more", "5 6=7|7 8=9")), []int{0, 0, 6, 4}}, {storeOf(9, named("a", ""), coll(""), named("more", "5 6=7")), []int{0, 0, 1, 1}},
		{storeOf(100, allChains(impl.MaxVersions)), []int{0, 0, impl.MaxVersions * (impl.TopId + 1), impl.TopId + 1}},
		{withTxns(storeOf(9, coll("1 2=1")), "0 3"), []int{1, 0, 1, 1}}, {withTxns(storeOf(9, coll("1 2=1")), "0 3", "1 9", "3 0"), []int{3, 0, 1, 1}}, {withTxns(storeOf(9, coll("")), "0 3", "1 9", "2 4", "3 0"), []int{4, 0, 0, 0}},
		// What an open one wrote counts nowhere, nor does what it can't see.
		{withTxns(storeOf(9, coll("1 2=1|5 7=1 8-")), "0 1 ?1 1- 2=2 3=3", "1 7 1=5"), []int{2, 0, 3, 1}},
		{withDone(storeOf(9, coll("1 2=1")), "0 3 ?1|3 5|5 9"), []int{0, 3, 1, 1}}, {withDone(withTxns(storeOf(9, coll("1 2=1 4=2")), "2 3"), "0 5 =2 =3"), []int{1, 1, 2, 1}}, {dirty(), []int{0, 2, 5, 2}},
	} {
		sizesAre(t, "told", row.s, row.want...)
	}
	full := storeOf(100, coll(""))
	full.Done = manyDones(impl.MaxDone)
	sizesAre(t, "MaxDone", full, 0, impl.MaxDone, 0, 0)
}

func TestP15SizesInATalk(t *testing.T) {
	s := fresh()
	for _, row := range []struct {
		line string
		want []int
	}{
		{"0 insert 1=1: ok 1", []int{0, 0, 1, 1}}, {"0 insert more.2=2: ok 1", []int{0, 0, 2, 2}}, {"0 inc *: ok 1", []int{0, 0, 2, 2}}, {"3 begin: ok 0", []int{1, 0, 2, 2}}, {"0 inc *: ok 1", []int{1, 1, 3, 2}}, {"3 insert 5=5: ok 1", []int{1, 1, 3, 2}}, {"3 delete *more: ok 1", []int{1, 1, 3, 2}},
		{"0 begin: ok 0", []int{2, 1, 3, 2}}, {"0 delete *: ok 1", []int{2, 1, 3, 2}}, {"0 commit: ok 0", []int{1, 2, 4, 1}}, {"1 find *: ok 0", []int{1, 3, 4, 1}}, {"2 insert 7=7: ok 1", []int{1, 4, 5, 2}}, {"2 insert 7=7: twice", []int{1, 4, 5, 2}}, {"3 commit: ok 0", []int{0, 0, 2, 2}},
		{"1 begin: ok 0", []int{1, 0, 2, 2}}, {"1 inc *: ok 2", []int{1, 0, 2, 2}}, {"0 inc ?5: ok 1", []int{1, 1, 3, 2}}, {"1 commit: conflict", []int{0, 0, 2, 2}}, {"1 begin: ok 0", []int{1, 0, 2, 2}}, {"1 delete *: ok 2", []int{1, 0, 2, 2}}, {"1 abort: ok 0", []int{0, 0, 2, 2}},
	} {
		s = audited(t, s, row.line)
		sizesAre(t, row.line, s, row.want...)
	}
}
