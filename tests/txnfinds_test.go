package tests

import (
	"fmt"
	"math"
	"slices"
	"strings"
	"testing"

	"loop.example/g00380/impl"
)

// above lets in things whose number is greater.
func above(k int) impl.Filter { return where(term(impl.TeGt, "k", intOf(k))) }

// below lets in things whose number is less.
func below(k int) impl.Filter { return where(term(impl.TeLt, "k", intOf(k))) }

// ofIds lets in the documents of these ids.
func ofIds(ids ...int) impl.Filter {
	list := many()
	for _, id := range ids {
		list.items = append(list.items, num(id))
	}
	return where(term(impl.TeIn, "id", list.value()))
}

// things are written as 3=7 each.
func things(text string) []impl.Value {
	var list []impl.Value
	for w := range strings.FieldsSeq(text) {
		list = append(list, writeOf(w).Doc)
	}
	return list
}

// findsAre holds TxnFind to things, in their order, and to its filter, noted behind the other reads.
func findsAre(t *testing.T, x impl.Txn, c impl.Coll, q impl.Query, want string) {
	t.Helper()
	docs := things(want)
	callOf(impl.TxnFind(x, c, q)).is(t, fmt.Sprintf("TxnFind of %v in %s", q, shownTxn(x)), withRead(x, c.Name, q.Filter), impl.Reply{Docs: docs, N: len(docs)})
}

func TestP11FindLetsIn(t *testing.T) {
	c := coll("1 2=4 6=9|5 1=3 4-|9 5=2|12 1=1")
	oneOrOther := filter(clause(term(impl.TeEq, "k", intOf(1))), clause(term(impl.TeEq, "id", intOf(1))))
	type row struct {
		f    impl.Filter
		want string
	}
	for text, rows := range map[string][]row{
		"0 0":                     {{everything(), ""}, {above(0), ""}},
		"1 3":                     {{everything(), "1=4 5=3 12=1"}, {above(1), "1=4 5=3"}, {above(4), ""}, {below(3), "12=1"}, {ofIds(5, 9), "5=3"}, {oneOrOther, "1=4 12=1"}},
		"2 6":                     {{everything(), "1=9 9=2 12=1"}, {above(4), "1=9"}, {ofIds(5), ""}, {below(3), "9=2 12=1"}},
		"3 3 1=0 5- 9=7 more.1-":  {{everything(), "1=0 9=7 12=1"}, {above(2), "9=7"}, {below(5), "1=0 12=1"}, {ofIds(5), ""}, {ofIds(1, 5, 9), "1=0 9=7"}},
		"0 3 1- 5- 12-":           {{everything(), ""}, {above(-1), ""}},
		"0 10000 more.1=5 zz.12-": {{everything(), "1=9 9=2 12=1"}, {above(4), "1=9"}},
	} {
		for _, row := range rows {
			for _, reads := range []string{"", " ?1", " ?1 ?1 >more.3"} {
				findsAre(t, txn(text+reads), c, impl.Query{Filter: row.f}, row.want)
			}
		}
	}
}

// The filter is noted as it was handed in, not in another form that lets in the same.
func TestP11FindNotesItsFilter(t *testing.T) {
	a, b := term(impl.TeGt, "k", intOf(1)), term(impl.TeEq, "a", intOf(1))
	for what, f := range map[string]impl.Filter{
		"no term": everything(), "terms that do not rise": where(a, b, a), "a clause without terms": filter(clause(a), clause(), clause(b)), "alike clauses": filter(clause(a), clause(a)),
		"all that there may be": filter(clause(a, a, a, a), clause(b, b, b, b), clause(a, b, a, b)), "what lets in nothing": where(term(impl.TeType, "k", intOf(0))),
	} {
		for _, text := range []string{"", "1 1=2", "1 1=2|3 2=5"} {
			x, c := txn("2 5 ?1 more.1=1"), coll(text)
			if y, _, code := impl.TxnFind(x, c, impl.Query{Filter: f, Skip: 1, Limit: 1, Hint: "none"}); !sameTxn(y, withRead(x, "docs", f)) || code != impl.OK {
				t.Errorf("TxnFind with %s: %s, %d", what, shownTxn(y), code)
			}
		}
	}
}

func TestP11FindSortsAndCuts(t *testing.T) {
	c := coll("1 1=4|3 1=2|5 1=4|7 1=1 3=8")
	x := txn("1 2 ?1 3=6 9=2 more.1-")
	for _, row := range []struct {
		q    impl.Query
		want string
	}{
		{impl.Query{}, "1=4 3=6 5=4 7=1 9=2"},
		{impl.Query{Sort: parts("k")}, "7=1 9=2 1=4 5=4 3=6"},
		{impl.Query{Sort: parts("-k")}, "3=6 1=4 5=4 9=2 7=1"},
		{impl.Query{Sort: parts("-k", "-id")}, "3=6 5=4 1=4 9=2 7=1"},
		{impl.Query{Sort: parts("-id")}, "9=2 7=1 5=4 3=6 1=4"},
		{impl.Query{Skip: 2}, "5=4 7=1 9=2"},
		{impl.Query{Skip: 5}, ""},
		{impl.Query{Skip: 100}, ""},
		{impl.Query{Limit: 2}, "1=4 3=6"},
		{impl.Query{Limit: 100}, "1=4 3=6 5=4 7=1 9=2"},
		{impl.Query{Skip: 1, Limit: 2}, "3=6 5=4"},
		{impl.Query{Skip: 4, Limit: 3}, "9=2"},
		{impl.Query{Sort: parts("-k"), Skip: 1, Limit: 3}, "1=4 5=4 9=2"},
		{impl.Query{Hint: "one"}, "1=4 3=6 5=4 7=1 9=2"},
		{impl.Query{Keep: []string{"k"}}, "1=4 3=6 5=4 7=1 9=2"},
	} {
		for _, f := range []impl.Filter{everything(), above(0)} {
			row.q.Filter = f
			findsAre(t, x, c, row.q, row.want)
		}
	}
	// What is not kept is sorted by all the same; N tells the documents that are there then.
	q := impl.Query{Filter: above(1), Sort: parts("-k"), Limit: 2, Keep: []string{"no"}}
	want := []impl.Value{record("id", num(3)).value(), record("id", num(1)).value()}
	callOf(impl.TxnFind(x, c, q)).is(t, "TxnFind that keeps ids", withRead(x, "docs", q.Filter), impl.Reply{Docs: want, N: 2})
}

// Whatever indexes a collection defines, and whichever one is hinted at, the same is found.
func TestP11FindByNoIndex(t *testing.T) {
	for _, defs := range [][]impl.Def{nil, {def("one", "k")}, {def("one", "-k"), def("two", "id", "k"), def("three", "no")}} {
		c := coll("1 1=4|3 1=2|5 1=4|7 1=1 3=8", defs...)
		for _, hint := range []string{"", "one", "two", "none"} {
			findsAre(t, txn("1 2 3=6 9=2"), c, impl.Query{Filter: above(1), Hint: hint}, "1=4 3=6 5=4 9=2")
		}
	}
}

func TestP11FindOfAnyCollection(t *testing.T) {
	x := txn("0 5 a.1=1 b.1=2 b.2- docs.3=3")
	for name, want := range map[string]string{"a": "1=1 2=9", "b": "1=2", "docs": "1=8 2=9 3=3", "c": "1=8 2=9"} {
		c := coll("1 5=8|2 4=9")
		c.Name = name
		findsAre(t, x, c, impl.Query{Filter: above(0)}, want)
	}
}

// The same may be asked as often as there is room for, and is noted each time.
func TestP11FindUntilThereIsNoRoom(t *testing.T) {
	c := coll("1 1=4|3 1=2")
	for _, q := range []impl.Query{{Filter: everything()}, {Filter: above(3)}, {Filter: above(9)}, {Filter: everything(), Limit: 1}} {
		for _, text := range []string{"1 2", "1 2 3- 5=9 more.3=1"} {
			x := txn(text)
			rows, _ := impl.TxnDocs(x, c)
			want, _ := impl.FindDocs(q, rows)
			for range impl.MaxReads {
				y, r, code := impl.TxnFind(x, c, q)
				callOf(y, r, code).is(t, "TxnFind", withRead(x, "docs", q.Filter), impl.Reply{Docs: want, N: len(want)})
				x = y
			}
			for range 3 {
				callOf(impl.TxnFind(x, c, q)).is(t, "TxnFind without room", x, impl.Reply{Code: impl.ErrFull})
			}
		}
	}
}

// A query that is not right is told ahead of room that is not.
func TestP11FindOfWrongQueries(t *testing.T) {
	yes := term(impl.TeEq, "id", intOf(1))
	for what, q := range map[string]impl.Query{
		"a zero one": {}, "four clauses": {Filter: filter(clause(), clause(), clause(), clause())}, "five terms": {Filter: where(yes, yes, yes, yes, yes)}, "a wrong term": {Filter: where(yes, term(0, "a", intOf(1)))},
		"a wrong path": {Filter: where(term(impl.TeEq, "9", intOf(1)))}, "a wrong value": {Filter: where(term(impl.TeEq, "a", boolOf(2)))}, "a size of -1": {Filter: where(term(impl.TeSize, "a", intOf(-1)))},
		"three paths": {Filter: everything(), Sort: parts("a", "b", "c")}, "a wrong path to sort by": {Filter: everything(), Sort: parts("a", "9")}, "Skip -1": {Filter: everything(), Skip: -1}, "Skip 101": {Filter: everything(), Skip: 101},
		"Limit -1": {Filter: everything(), Limit: -1}, "Limit 101": {Filter: everything(), Limit: 101}, "the least Skip": {Filter: everything(), Skip: math.MinInt}, "the greatest Limit": {Filter: everything(), Limit: math.MaxInt},
		"five names": {Filter: everything(), Keep: shortNames(5)}, "no name": {Filter: everything(), Keep: []string{"a", ""}}, "a long name": {Filter: everything(), Keep: []string{strings.Repeat("n", 13)}},
		"a wrong hint": {Filter: everything(), Hint: "9"}, "a long hint": {Filter: everything(), Hint: strings.Repeat("n", 13)}, "a hint beyond MaxText": {Filter: everything(), Hint: strings.Repeat("n", impl.MaxText+1)},
		"paths beyond MaxList": {Filter: everything(), Sort: slices.Repeat(parts("a"), impl.MaxList+1)}, "clauses beyond MaxList": {Filter: impl.Filter{Any: make([]impl.Clause, impl.MaxList+1)}},
	} {
		for _, x := range []impl.Txn{txn("0 5"), txn("3 2 ?1 1=7 5-"), withReads(txn("1 2"), impl.MaxReads), {Snap: -1}} {
			for _, c := range []impl.Coll{coll(""), coll("1 2=1|5 3=2"), {}} {
				callOf(impl.TxnFind(x, c, q)).fails(t, "TxnFind of "+what, impl.ErrBad)
			}
		}
	}
}
