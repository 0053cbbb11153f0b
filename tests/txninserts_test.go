package tests

import (
	"fmt"
	"slices"
	"testing"

	"loop.example/g00380/impl"
)

// idIs is what an insert has to note.
func idIs(id int) impl.Filter { return where(term(impl.TeEq, "id", intOf(id))) }

// withWrite is x with a write in its place, instead of one of the same document.
func withWrite(x impl.Txn, w impl.Write) impl.Txn {
	isAhead := func(o impl.Write) bool { return o.Coll < w.Coll || o.Coll == w.Coll && o.Id < w.Id }
	var list []impl.Write
	for _, o := range x.Writes {
		if isAhead(o) {
			list = append(list, o)
		}
	}
	list = append(list, w)
	for _, o := range x.Writes {
		if !isAhead(o) && (o.Coll != w.Coll || o.Id != w.Id) {
			list = append(list, o)
		}
	}
	return withWrites(x, list...)
}

// insertIs holds one TxnInsert to a code of its reply, and to what that leaves in the transaction.
func insertIs(t *testing.T, x impl.Txn, c impl.Coll, doc node, code int) {
	t.Helper()
	want, r := x, impl.Reply{Code: code}
	switch code {
	case impl.OK:
		want = withWrite(withRead(x, c.Name, idIs(doc.id())), impl.Write{Coll: c.Name, Id: doc.id(), Doc: doc.value()})
		r.N = 1
	case impl.ErrTwice:
		want = withRead(x, c.Name, idIs(doc.id()))
	}
	callOf(impl.TxnInsert(x, c, doc.value())).is(t, fmt.Sprintf("TxnInsert of %v in %s", doc, shownTxn(x)), want, r)
}

func numberedThing(id, k int) node { return record("id", num(id), "k", num(k)) }

func TestP11InsertOfIds(t *testing.T) {
	for _, text := range []string{"", "5 1=1"} {
		for _, x := range []impl.Txn{txn("0 0"), txn("1 9 ?1 4=1 6-"), withReads(txn("2 3"), 19)} {
			for _, id := range []int{0, 1, 2, 3, 7, 18, 19} {
				insertIs(t, x, coll(text), numberedThing(id, 1), impl.OK)
			}
			for _, id := range []int{-1, -2, -19, 20, 21, 99, 100, 1 << 32, 1<<32 + 3, impl.MaxNumber, -impl.MaxNumber} {
				insertIs(t, x, coll(text), numberedThing(id, 1), impl.ErrRange)
			}
		}
	}
}

// Nothing is noted of a document whose id is none, and no room is needed for that.
func TestP11InsertWithoutAnId(t *testing.T) {
	for _, doc := range []node{
		record(), record("a", num(1)), record("ID", num(1)), record("a", record("id", num(1))), record("id", node{}), record("id", node{kind: impl.VaBool, n: 1}), record("id", word("1")), record("id", word("")),
		record("id", many(num(1))), record("id", many()), record("id", record("id", num(1))), record("id", num(20)), record("a", num(3), "id", num(-1)),
	} {
		for _, c := range []impl.Coll{coll(""), coll("0 1=1|1 1=1"), allChains(1)} {
			for _, n := range []int{0, 1, 19, 20} {
				insertIs(t, withReads(txn("0 5"), n), c, doc, impl.ErrRange)
				insertIs(t, withReads(txn("0 5 1=7 2- more.1=1"), n), c, doc, impl.ErrRange)
			}
		}
	}
}

func TestP11InsertOfWhatIsThere(t *testing.T) {
	// 1 is there from 2 on, 5 goes at 4, 9 comes at 5, 12 was gone from the beginning.
	c := coll("1 2=1 6=2|5 1=3 4-|9 5=4|12 1-", def("one", "k"))
	for text, rows := range map[string]map[int]int{
		"0 0":                            {1: impl.OK, 5: impl.OK, 9: impl.OK, 12: impl.OK, 3: impl.OK},
		"0 1":                            {1: impl.OK, 5: impl.ErrTwice, 9: impl.OK, 12: impl.OK},
		"1 3":                            {1: impl.ErrTwice, 5: impl.ErrTwice, 9: impl.OK, 12: impl.OK, 0: impl.OK, 19: impl.OK},
		"1 4 ?3":                         {1: impl.ErrTwice, 5: impl.OK, 9: impl.OK},
		"2 5":                            {1: impl.ErrTwice, 5: impl.OK, 9: impl.ErrTwice},
		"3 10000":                        {1: impl.ErrTwice, 5: impl.OK, 9: impl.ErrTwice, 12: impl.OK},
		"0 3 3=7":                        {3: impl.ErrTwice, 2: impl.OK, 4: impl.OK, 1: impl.ErrTwice},
		"0 3 1=7":                        {1: impl.ErrTwice, 5: impl.ErrTwice},
		"0 3 1-":                         {1: impl.OK, 5: impl.ErrTwice},
		"0 3 1- 5- 12-":                  {1: impl.OK, 5: impl.OK, 12: impl.OK, 9: impl.OK},
		"0 3 7-":                         {7: impl.OK},
		"0 0 0=1 7- 19=1":                {0: impl.ErrTwice, 7: impl.OK, 19: impl.ErrTwice, 18: impl.OK},
		"0 3 a.1- a.3=7 more.1- more.7-": {1: impl.ErrTwice, 3: impl.OK, 7: impl.OK},
		"0 3 docs.3- docs_.1- more.3=1":  {1: impl.ErrTwice, 3: impl.OK},
	} {
		for id, code := range rows {
			for _, k := range []int{0, 1, 3, 7} {
				insertIs(t, txn(text), c, numberedThing(id, k), code)
			}
			insertIs(t, txn(text), c, record("a", many(word("x")), "id", num(id), "z", node{}), code)
			insertIs(t, txn(text), c, record("id", num(id)), code)
		}
	}
}

// What was inserted is there, what was deleted may come again, all with one write of a document.
func TestP11InsertAgain(t *testing.T) {
	c := coll("1 2=1|5 1=3")
	x := txn("1 3")
	step := func(want string, call called, reads int, writes string) {
		t.Helper()
		if code := impl.CodeWord(call.r.Code); call.code != impl.OK || code != want || len(call.x.Reads) != reads || !slices.Equal(call.x.Writes, txn("0 0 "+writes).Writes) {
			t.Errorf("%s, %s, %d, not %s, %d reads, %s", shownTxn(call.x), shownReply(call.r), call.code, want, reads, writes)
		}
		x = call.x
	}
	step("ok", callOf(impl.TxnInsert(x, c, thing(3, 7))), 1, "3=7")
	step("twice", callOf(impl.TxnInsert(x, c, thing(3, 8))), 2, "3=7")
	step("twice", callOf(impl.TxnInsert(x, c, thing(3, 7))), 3, "3=7")
	step("ok", callOf(impl.TxnDelete(x, c, idIs(3))), 4, "3-")
	step("ok", callOf(impl.TxnInsert(x, c, thing(3, 9))), 5, "3=9")
	step("twice", callOf(impl.TxnInsert(x, c, thing(1, 9))), 6, "3=9")
	step("ok", callOf(impl.TxnDelete(x, c, idIs(1))), 7, "1- 3=9")
	step("ok", callOf(impl.TxnInsert(x, c, thing(1, 9))), 8, "1=9 3=9")
	step("ok", callOf(impl.TxnInsert(x, c, thing(2, 5))), 9, "1=9 2=5 3=9")
	step("range", callOf(impl.TxnInsert(x, c, thing(20, 5))), 9, "1=9 2=5 3=9")
	step("ok", callOf(impl.TxnInsert(x, c, thing(0, 5))), 10, "0=5 1=9 2=5 3=9")
	docsAre(t, x, c, "0=5 1=9 2=5 3=9 5=3")
	more := c
	more.Name = "more"
	step("ok", callOf(impl.TxnInsert(x, more, thing(3, 1))), 11, "0=5 1=9 2=5 3=9 more.3=1")
	first := coll("")
	first.Name = "a"
	step("ok", callOf(impl.TxnInsert(x, first, thing(19, 1))), 12, "a.19=1 0=5 1=9 2=5 3=9 more.3=1")
	docsAre(t, x, more, "1=1 3=1 5=3")
	docsAre(t, x, first, "19=1")
}

// An id that is none is told ahead of room, and room ahead of an id that is there.
func TestP11InsertWithoutRoom(t *testing.T) {
	c := coll("1 2=1|5 1=3")
	for _, text := range []string{"1 3", "1 3 3=7 4- more.1=1"} {
		for n, full := range map[int]bool{18: false, 19: false, 20: true} {
			x := withReads(txn(text), n)
			for id, code := range map[int]int{0: impl.OK, 1: impl.ErrTwice, 4: impl.OK, 5: impl.ErrTwice, 19: impl.OK} {
				if full {
					code = impl.ErrFull
				}
				insertIs(t, x, c, numberedThing(id, 9), code)
			}
			insertIs(t, x, c, numberedThing(20, 9), impl.ErrRange)
			insertIs(t, x, c, record("k", num(1)), impl.ErrRange)
		}
	}
}

func TestP11InsertOfWhatIsNoDocument(t *testing.T) {
	for what, v := range noDocuments() {
		for _, x := range []impl.Txn{txn("0 5"), txn("3 2 ?1 1=7 5-"), withReads(txn("1 2"), impl.MaxReads), {Snap: -1}} {
			for _, c := range []impl.Coll{coll(""), coll("1 2=1|5 3=2"), {}} {
				callOf(impl.TxnInsert(x, c, v)).fails(t, "TxnInsert of "+what, impl.ErrBad)
			}
		}
	}
}

// A document of any fields is written as it is.
func TestP11InsertWhole(t *testing.T) {
	for _, x := range randomDocs(1103, 300) {
		doc := x.without("id").with("id", num(11))
		if !doc.fits() || doc.depth() > impl.MaxDeep {
			continue
		}
		insertIs(t, txn("0 1 3=1 12=1"), coll("3 1=1|12 1-"), doc, impl.OK)
	}
}
