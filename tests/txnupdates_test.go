package tests

import (
	"cmp"
	"fmt"
	"slices"
	"strings"
	"testing"

	"loop.example/g00380/impl"
)

// collOf has these documents from the time 1 on.
func collOf(docs ...node) impl.Coll {
	c := impl.Coll{Name: "docs"}
	for _, x := range docs {
		c.Chains = append(c.Chains, impl.Chain{Id: x.id(), Versions: []impl.Version{{At: 1, Doc: x.value()}}})
	}
	return c
}

// changeIs holds a call by a filter to n documents, and to the writes that are in the transaction then.
func changeIs(t *testing.T, call called, x impl.Txn, name string, f impl.Filter, n int, writes string) {
	t.Helper()
	want := withRead(withWrites(x, txn("0 0 "+writes).Writes...), name, f)
	call.is(t, "a change of "+shownTxn(x), want, impl.Reply{N: n})
}

func updateIs(t *testing.T, x impl.Txn, c impl.Coll, f impl.Filter, n int, writes string) {
	t.Helper()
	changeIs(t, callOf(impl.TxnUpdate(x, c, f, []impl.Update{update(impl.UpInc, "k", intOf(10))})), x, c.Name, f, n, writes)
}

func deleteIs(t *testing.T, x impl.Txn, c impl.Coll, f impl.Filter, n int, writes string) {
	t.Helper()
	changeIs(t, callOf(impl.TxnDelete(x, c, f)), x, c.Name, f, n, writes)
}

// A changeRow has the writes behind an update by 10, and behind a delete.
type changeRow struct {
	txn             string
	f               impl.Filter
	n               int
	updated, pruned string
}

func changesAre(t *testing.T, c impl.Coll, rows []changeRow) {
	t.Helper()
	for _, row := range rows {
		for _, reads := range []string{"", " ?3", " >more.1 ?3 ?3"} {
			updateIs(t, txn(row.txn+reads), c, row.f, row.n, row.updated)
			deleteIs(t, txn(row.txn+reads), c, row.f, row.n, row.pruned)
		}
	}
}

func TestP11ChangesOfASnapshot(t *testing.T) {
	changesAre(t, coll("1 2=1 6=2|5 1=3 4-|9 5=4|12 1-", def("one", "k")), []changeRow{
		{"0 0", everything(), 0, "", ""},
		{"0 1", everything(), 1, "5=13", "5-"},
		{"1 3", everything(), 2, "1=11 5=13", "1- 5-"},
		{"1 3", above(0), 2, "1=11 5=13", "1- 5-"},
		{"1 3", above(1), 1, "5=13", "5-"},
		{"1 3", below(3), 1, "1=11", "1-"},
		{"1 3", above(3), 0, "", ""},
		{"1 3", ofIds(9, 12), 0, "", ""},
		{"1 3", ofIds(5, 9, 12), 1, "5=13", "5-"},
		{"2 4", everything(), 1, "1=11", "1-"},
		{"2 5", everything(), 2, "1=11 9=14", "1- 9-"},
		{"3 10000", everything(), 2, "1=12 9=14", "1- 9-"},
		{"3 10000", filter(clause(term(impl.TeEq, "k", intOf(4))), clause(term(impl.TeEq, "id", intOf(1)))), 2, "1=12 9=14", "1- 9-"},
		{"3 10000", where(term(impl.TeExists, "no", boolOf(1))), 0, "", ""},
	})
}

func TestP11ChangesOfItsOwnWrites(t *testing.T) {
	changesAre(t, coll("1 2=1 6=2|5 1=3 4-|9 5=4|12 1-"), []changeRow{
		{"0 0 3=7", everything(), 1, "3=17", "3-"},
		{"0 0 3=7 4=8", everything(), 2, "3=17 4=18", "3- 4-"},
		{"0 0 3=7 4=8", above(7), 1, "3=7 4=18", "3=7 4-"},
		{"0 0 3=7 4=8", above(8), 0, "3=7 4=8", "3=7 4=8"},
		{"0 0 3-", everything(), 0, "3-", "3-"},
		{"0 0 0- 3=7 19-", everything(), 1, "0- 3=17 19-", "0- 3- 19-"},
		// Some of the snapshot, some of its own.
		{"1 3 3=7", everything(), 3, "1=11 3=17 5=13", "1- 3- 5-"},
		{"1 3 0=7 19=8", everything(), 4, "0=17 1=11 5=13 19=18", "0- 1- 5- 19-"},
		{"1 3 3=7", above(2), 2, "3=17 5=13", "3- 5-"},
		{"1 3 3=7", below(3), 1, "1=11 3=7", "1- 3=7"},
		{"1 3 3=7 6-", ofIds(1, 3, 6), 2, "1=11 3=17 6-", "1- 3- 6-"},
		// What its own write says counts, not what the snapshot has.
		{"1 3 1=7", above(5), 1, "1=17", "1-"},
		{"1 3 1=7", below(5), 1, "1=7 5=13", "1=7 5-"},
		{"1 3 1=7 5=8", everything(), 2, "1=17 5=18", "1- 5-"},
		{"1 3 1-", everything(), 1, "1- 5=13", "1- 5-"},
		{"1 3 1- 5-", everything(), 0, "1- 5-", "1- 5-"},
		{"1 3 1- 5=0", below(3), 1, "1- 5=10", "1- 5-"},
		// Writes of other collections stand ahead and behind, and stay.
		{"1 3 a.1=1 docs.3=7 more.1=1", everything(), 3, "a.1=1 1=11 3=17 5=13 more.1=1", "a.1=1 1- 3- 5- more.1=1"},
		{"1 3 a.1- a.5- docs_.5- more.1- more.5=1", everything(), 2, "a.1- a.5- 1=11 5=13 docs_.5- more.1- more.5=1", "a.1- a.5- 1- 5- docs_.5- more.1- more.5=1"},
		{"0 0 Docs.3=7 doc.3=7 more.3=7", everything(), 0, "Docs.3=7 doc.3=7 more.3=7", "Docs.3=7 doc.3=7 more.3=7"},
	})
}

func TestP11ChangesOfAllIds(t *testing.T) {
	for _, own := range []int{0, 1, 7, 20} {
		x, updated, pruned := impl.Txn{Snap: 20}, []string{}, []string{}
		for id := range impl.TopId + 1 {
			if id < own {
				x.Writes = append(x.Writes, put(id, 50))
				updated = append(updated, fmt.Sprint(id, "=60"))
			} else {
				updated = append(updated, fmt.Sprint(id, "=10"))
			}
			pruned = append(pruned, fmt.Sprint(id, "-"))
		}
		updateIs(t, x, allChains(1), everything(), 20, strings.Join(updated, " "))
		deleteIs(t, x, allChains(1), everything(), 20, strings.Join(pruned, " "))
		half := below(50)
		updateIs(t, x, allChains(1), half, 20-own, strings.ReplaceAll(strings.Join(updated, " "), "=60", "=50"))
	}
}

// What an update did is what the next call finds; a document is written once, however often it came.
func TestP11ChangesInARow(t *testing.T) {
	c := coll("1 1=1|5 1=3|9 1=5")
	x := txn("1 3")
	for i, writes := range []string{"1=11 5=13 9=15", "1=21 5=23 9=25", "1=31 5=33 9=35"} {
		updateIs(t, x, c, everything(), 3, writes)
		x, _, _ = impl.TxnUpdate(x, c, everything(), []impl.Update{update(impl.UpInc, "k", intOf(10))})
		if len(x.Reads) != i+1 {
			t.Errorf("%d reads", len(x.Reads))
		}
	}
	deleteIs(t, x, c, above(32), 2, "1=31 5- 9-")
	x, _, _ = impl.TxnDelete(x, c, above(32))
	docsAre(t, x, c, "1=31")
	deleteIs(t, x, c, above(32), 0, "1=31 5- 9-")
	updateIs(t, x, c, everything(), 1, "1=41 5- 9-")
	x, _, _ = impl.TxnInsert(x, c, thing(7, 2))
	updateIs(t, x, c, below(5), 1, "1=31 5- 7=12 9-")
	deleteIs(t, x, c, everything(), 2, "1- 5- 7- 9-")
}

// That nothing comes of an operation is no reason not to write.
func TestP11UpdatesThatChangeNothing(t *testing.T) {
	c := coll("1 1=1|5 1=3")
	for _, u := range []impl.Update{update(impl.UpInc, "k", intOf(0)), update(impl.UpUnset, "no", impl.Value{}), update(impl.UpPull, "no", intOf(1)), update(impl.UpUnset, "no.more", impl.Value{})} {
		changeIs(t, callOf(impl.TxnUpdate(txn("0 1"), c, everything(), []impl.Update{u})), txn("0 1"), "docs", everything(), 2, "1=1 5=3")
	}
}

// Operations are done one after the other, each to what the one ahead of it left.
func TestP11UpdatesOfManyOperations(t *testing.T) {
	c := collOf(record("id", num(1), "k", num(1)), record("id", num(2), "l", many(num(4))))
	list := []impl.Update{update(impl.UpPush, "l", intOf(7)), update(impl.UpInc, "k", intOf(5)), update(impl.UpSet, "a.b", textOf("x")), update(impl.UpInc, "k", intOf(-1))}
	ab := record("b", word("x"))
	want := withRead(withWrites(txn("0 1"),
		impl.Write{Coll: "docs", Id: 1, Doc: record("a", ab, "id", num(1), "k", num(5), "l", many(num(7))).value()},
		impl.Write{Coll: "docs", Id: 2, Doc: record("a", ab, "id", num(2), "k", num(4), "l", many(num(4), num(7))).value()}), "docs", everything())
	callOf(impl.TxnUpdate(txn("0 1"), c, everything(), list)).is(t, "TxnUpdate", want, impl.Reply{N: 2})
	for n := 1; n <= 4; n++ {
		if _, r, code := impl.TxnUpdate(txn("0 1"), c, everything(), list[:n]); r.N != 2 || r.Code != impl.OK || code != impl.OK {
			t.Errorf("TxnUpdate of %d operations: %s, %d", n, shownReply(r), code)
		}
	}
}

// coded have, for the operations of codedList, a code of their own each: see codesOfIds.
func coded() []node {
	return []node{
		record("id", num(1), "k", num(1)),
		record("id", num(3), "k", word("x")),
		record("id", num(5), "k", num(impl.MaxNumber)),
		record("id", num(7), "k", num(1), "t", word(strings.Repeat("x", 270))),
		record("id", num(9)),
	}
}

// codedList ends with a value that is n lists one in another.
func codedList(n int) []impl.Update {
	return []impl.Update{update(impl.UpInc, "k", intOf(1)), update(impl.UpSet, "n", nested(n, impl.VaList))}
}

// codesOfIds are those of codedList of 4, and of 5: with the document itself that is one too many.
func codesOfIds(n int) map[int]int {
	codes := map[int]int{1: impl.OK, 3: impl.ErrType, 5: impl.ErrRange, 7: impl.ErrSize, 9: impl.OK}
	if n == 5 {
		codes[1], codes[9] = impl.ErrDeep, impl.ErrDeep
	}
	return codes
}

// The code is that of the first document that has one, whoever stands around it.
func TestP11UpdateCodes(t *testing.T) {
	docs := coded()
	for i := range 1 << len(docs) {
		for _, n := range []int{4, 5} {
			var ids []int
			want := impl.OK
			for j, x := range docs {
				if i>>j&1 == 1 {
					ids = append(ids, x.id())
					want = cmp.Or(want, codesOfIds(n)[x.id()])
				}
			}
			for _, text := range []string{"0 1", "2 1 ?1 0=1 4- 19=7 more.1=1"} {
				x, f := txn(text), ofIds(ids...)
				y, r, code := impl.TxnUpdate(x, collOf(docs...), f, codedList(n))
				if want != impl.OK {
					callOf(y, r, code).is(t, fmt.Sprint("TxnUpdate of ", ids), withRead(x, "docs", f), impl.Reply{Code: want})
				} else if r.Code != impl.OK || r.N != len(ids) || code != impl.OK {
					t.Errorf("TxnUpdate of %v: %s, %d", ids, shownReply(r), code)
				}
			}
		}
	}
}

// It is the same whether the snapshot has the document or the transaction wrote it.
func TestP11UpdateCodesOfItsOwnWrites(t *testing.T) {
	for _, x := range coded() {
		var others []node
		for _, y := range coded() {
			if y.id() != x.id() {
				others = append(others, numberedThing(y.id(), 1))
			}
		}
		w := impl.Write{Coll: "docs", Id: x.id(), Doc: x.value()}
		want := codesOfIds(4)[x.id()]
		for _, own := range []impl.Txn{withWrites(txn("0 1"), w), withWrites(txn("0 1 ?3"), writeOf("a.1=1"), w, writeOf("more.1-"))} {
			y, r, code := impl.TxnUpdate(own, collOf(others...), everything(), codedList(4))
			if want != impl.OK {
				callOf(y, r, code).is(t, fmt.Sprint("TxnUpdate of ", x), withRead(own, "docs", everything()), impl.Reply{Code: want})
			} else if r.Code != impl.OK || r.N != 5 || code != impl.OK {
				t.Errorf("TxnUpdate: %s, %d", shownReply(r), code)
			}
		}
		// Gone, or written anew, it has no code.
		for _, own := range []impl.Txn{withWrites(txn("0 1"), gone(x.id())), withWrites(txn("0 1"), put(x.id(), 1))} {
			if _, r, code := impl.TxnUpdate(own, collOf(x), everything(), codedList(4)); r.Code != impl.OK || code != impl.OK {
				t.Errorf("TxnUpdate of what %v was: %s, %d", x, shownReply(r), code)
			}
		}
	}
}

// An operation's code is told of the first document, though a later one has another of an earlier one.
func TestP11UpdateCodesByDocuments(t *testing.T) {
	c := collOf(record("a", num(1), "b", word("x"), "id", num(1)), record("a", word("x"), "b", num(1), "id", num(2)), record("a", num(impl.MaxNumber), "id", num(3)))
	list := []impl.Update{update(impl.UpInc, "a", intOf(1)), update(impl.UpInc, "b", intOf(impl.MaxNumber))}
	for _, row := range []struct {
		ids  []int
		code int
	}{{[]int{1, 2}, impl.ErrType}, {[]int{3, 1}, impl.ErrType}, {[]int{3}, impl.ErrRange}, {[]int{2, 3}, impl.ErrType}} {
		f := ofIds(row.ids...)
		callOf(impl.TxnUpdate(txn("0 1"), c, f, list)).is(t, fmt.Sprint("TxnUpdate of ", row.ids), withRead(txn("0 1"), "docs", f), impl.Reply{Code: row.code})
	}
}

// No operation changes an id: the path is none of its own, and behind it nothing is.
func TestP11UpdatesOfTheId(t *testing.T) {
	c := coll("1 1=1|5 1=3")
	for _, op := range allOps {
		for _, x := range []impl.Txn{txn("0 1"), txn("0 1 3=7"), withReads(txn("0 1"), impl.MaxReads)} {
			callOf(impl.TxnUpdate(x, c, everything(), []impl.Update{update(op, "id", valueFor(op))})).fails(t, "an operation on id", impl.ErrBad)
			callOf(impl.TxnUpdate(x, c, above(99), []impl.Update{incK[0], update(op, "id", valueFor(op))})).fails(t, "an operation on id", impl.ErrBad)
		}
		inner := []impl.Update{update(op, "id.a", valueFor(op))}
		callOf(impl.TxnUpdate(txn("0 1 3=7"), c, everything(), inner)).is(t, "an operation on id.a", withRead(txn("0 1 3=7"), "docs", everything()), impl.Reply{Code: impl.ErrType})
		callOf(impl.TxnUpdate(txn("0 1"), c, above(99), inner)).is(t, "an operation on id.a of nothing", withRead(txn("0 1"), "docs", above(99)), impl.Reply{})
	}
	for _, path := range []string{"ID", "id_", "a.id"} {
		y, r, code := impl.TxnUpdate(txn("0 1"), c, everything(), []impl.Update{update(impl.UpSet, path, intOf(9))})
		if r.N != 2 || code != impl.OK || !impl.TxnOK(y) || y.Writes[0].Id != 1 || y.Writes[1].Id != 5 {
			t.Errorf("an operation on %s: %s, %s, %d", path, shownTxn(y), shownReply(r), code)
		}
	}
}

func TestP11ChangesWithoutRoom(t *testing.T) {
	c := coll("1 1=1|5 1=3")
	for _, text := range []string{"0 1", "2 1 3=7 5- more.1=1"} {
		for _, f := range []impl.Filter{everything(), above(2), above(99)} {
			x := withReads(txn(text), impl.MaxReads)
			// Also where an operation would have a code of its own.
			for _, list := range [][]impl.Update{incK, {update(impl.UpPush, "k", intOf(1))}} {
				callOf(impl.TxnUpdate(x, c, f, list)).is(t, "TxnUpdate without room", x, impl.Reply{Code: impl.ErrFull})
			}
			callOf(impl.TxnDelete(x, c, f)).is(t, "TxnDelete without room", x, impl.Reply{Code: impl.ErrFull})
			x = withReads(txn(text), impl.MaxReads-1)
			if y, r, code := impl.TxnUpdate(x, c, f, incK); len(y.Reads) != impl.MaxReads || r.Code != impl.OK || code != impl.OK {
				t.Errorf("TxnUpdate with room: %s, %s, %d", shownTxn(y), shownReply(r), code)
			}
			if y, r, code := impl.TxnDelete(x, c, f); len(y.Reads) != impl.MaxReads || r.Code != impl.OK || code != impl.OK {
				t.Errorf("TxnDelete with room: %s, %s, %d", shownTxn(y), shownReply(r), code)
			}
		}
	}
}

// Lists that are not right are told whatever the filter lets in, and ahead of room that is not.
func TestP11UpdatesOfWrongLists(t *testing.T) {
	wrong := map[string][]impl.Update{"none": nil, "an empty list": {}, "five": slices.Repeat(incK, 5), "MaxList": slices.Repeat(incK, impl.MaxList)}
	for i, u := range []impl.Update{
		{}, update(0, "k", intOf(1)), update(6, "k", intOf(1)), update(-1, "k", intOf(1)), update(impl.UpSet, "", intOf(1)), update(impl.UpSet, "a.b.c.d.e", intOf(1)), update(impl.UpSet, "id", intOf(1)),
		update(impl.UpSet, "k", boolOf(2)), update(impl.UpUnset, "k", intOf(1)), update(impl.UpInc, "k", textOf("1")), update(impl.UpSet, strings.Repeat("n", impl.MaxText+1), intOf(1)),
	} {
		for place := range 4 {
			list := slices.Repeat([]impl.Update{update(impl.UpPush, "k", intOf(1))}, place+1)
			list[place] = u
			wrong[fmt.Sprint("a wrong one, ", i, ", at ", place)] = list
		}
	}
	xs := []impl.Txn{txn("0 5"), txn("3 2 ?1 1=7 5-"), withReads(txn("1 2"), impl.MaxReads), {Snap: -1}}
	colls := []impl.Coll{coll(""), coll("1 2=1|5 3=2"), {}}
	for _, x := range xs {
		for _, c := range colls {
			for _, f := range []impl.Filter{everything(), above(99), {}} {
				for what, list := range wrong {
					callOf(impl.TxnUpdate(x, c, f, list)).fails(t, "TxnUpdate, "+what, impl.ErrBad)
				}
				// Too long a list is told ahead of all else.
				for _, list := range [][]impl.Update{slices.Repeat(incK, impl.MaxList+1), make([]impl.Update, impl.MaxList+1), make([]impl.Update, 2*impl.MaxList)} {
					callOf(impl.TxnUpdate(x, c, f, list)).fails(t, fmt.Sprint("TxnUpdate of ", len(list)), impl.ErrLong)
				}
			}
		}
	}
}

func TestP11ChangesByWrongFilters(t *testing.T) {
	yes := term(impl.TeEq, "id", intOf(1))
	for what, f := range map[string]impl.Filter{
		"no clause": {}, "an empty list of clauses": {Any: []impl.Clause{}}, "four clauses": filter(clause(), clause(), clause(), clause()), "five terms": where(yes, yes, yes, yes, yes), "no Op": where(term(0, "a", intOf(1))),
		"an Op more": where(yes, term(11, "a", intOf(1))), "no path": where(term(impl.TeEq, "", intOf(1))), "a wrong value behind": filter(clause(), clause(yes, term(impl.TeEq, "a", boolOf(2)))), "beyond MaxList": {Any: make([]impl.Clause, impl.MaxList+1)},
	} {
		for _, x := range []impl.Txn{txn("0 5"), txn("3 2 ?1 1=7 5-"), withReads(txn("1 2"), impl.MaxReads), {Session: -1}} {
			for _, c := range []impl.Coll{coll(""), coll("1 2=1|5 3=2"), {}} {
				callOf(impl.TxnUpdate(x, c, f, incK)).fails(t, "TxnUpdate, "+what, impl.ErrBad)
				callOf(impl.TxnUpdate(x, c, f, nil)).fails(t, "TxnUpdate of nothing, "+what, impl.ErrBad)
				callOf(impl.TxnDelete(x, c, f)).fails(t, "TxnDelete, "+what, impl.ErrBad)
			}
		}
	}
}
