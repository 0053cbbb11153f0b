package tests

import (
	"fmt"
	"math/rand"
	"slices"
	"strings"
	"testing"

	"loop.example/g00380/impl"
)

// asTxn is what chapter 11 says of a command of documents, in a transaction of a store.
func asTxn(s impl.Store, x impl.Txn, c impl.Command) called {
	at := slices.IndexFunc(s.Colls, func(o impl.Coll) bool { return o.Name == c.Coll })
	if at < 0 {
		return called{x: x, r: impl.Reply{Code: impl.ErrName}}
	}
	switch c.Kind {
	case impl.CoInsert:
		return callOf(impl.TxnInsert(x, s.Colls[at], c.Doc))
	case impl.CoUpdate:
		return callOf(impl.TxnUpdate(x, s.Colls[at], c.Query.Filter, c.Updates))
	case impl.CoDelete:
		return callOf(impl.TxnDelete(x, s.Colls[at], c.Query.Filter))
	}
	call := callOf(impl.TxnFind(x, s.Colls[at], c.Query))
	if c.Kind == impl.CoCount {
		call.r.Docs = nil
	}
	return call
}

// docCommands are of documents, of collections that are there and of one that is not.
func docCommands(session int) []impl.Command {
	var list []impl.Command
	for _, text := range []string{
		"insert 1=9", "insert 5=9", "insert 7=9", "insert 19=9", "insert 20=9", "insert more.1=9", "insert more.7=9", "insert none.7=9", "insert none.20=9",
		"find *", "find ?1", "find >1", "find *more", "find *none", "count *", "count >1", "count >more.1", "count *none",
		"inc *", "inc ?5", "inc >9", "inc *more", "inc *none", "delete *", "delete >1", "delete >9", "delete *more", "delete *none",
	} {
		list = append(list, command(fmt.Sprint(session, " ", text)))
	}
	q := impl.Query{Filter: everything(), Sort: parts("-k"), Skip: 1, Limit: 1, Keep: []string{"k"}, Hint: "none"}
	push := []impl.Update{update(impl.UpPush, "k", intOf(1))}
	return append(list,
		impl.Command{Kind: impl.CoFind, Session: session, Coll: "docs", Query: q},
		impl.Command{Kind: impl.CoCount, Session: session, Coll: "docs", Query: q},
		impl.Command{Kind: impl.CoUpdate, Session: session, Coll: "docs", Query: q, Updates: incK},
		impl.Command{Kind: impl.CoDelete, Session: session, Coll: "docs", Query: q},
		impl.Command{Kind: impl.CoUpdate, Session: session, Coll: "docs", Query: q, Updates: push},
		impl.Command{Kind: impl.CoUpdate, Session: session, Coll: "more", Query: q, Updates: push},
		impl.Command{Kind: impl.CoInsert, Session: session, Coll: "docs", Doc: record("k", num(1)).value()},
		impl.Command{Kind: impl.CoInsert, Session: session, Coll: "docs", Doc: record("id", word("1")).value()},
	)
}

// inTxnIs holds a command to chapter 11 in the transaction that stands at a place, and to nothing else.
func inTxnIs(t *testing.T, s impl.Store, place int, c impl.Command) impl.Reply {
	t.Helper()
	what := fmt.Sprintf("%d of %s in %s", c.Kind, c.Coll, shownStore(s))
	call := asTxn(s, s.Txns[place], c)
	if call.code != impl.OK {
		t.Fatalf("%s: chapter 11 has %d", what, call.code)
	}
	want := s
	want.Txns = slices.Clone(s.Txns)
	want.Txns[place] = call.x
	storeIs(t, what, doIs(t, s, c, what, call.r), want)
	return call.r
}

func TestP12CommandsInATransaction(t *testing.T) {
	s := withDone(storeOf(9, coll("1 2=1 6=2|5 3=3 4-|9 5=4", def("one", "k")), named("more", "1 1=1")), "0 3 ?1|4 6 =1")
	s = withTxns(s, "0 9", "1 5 ?1 ?more.2 5=7 9- more.3=3", "3 2")
	s.Txns[2] = withReads(s.Txns[2], impl.MaxReads)
	codes := map[int]int{}
	for place, session := range []int{0, 1, 3} {
		for _, c := range docCommands(session) {
			r := inTxnIs(t, s, place, c)
			codes[r.Code]++
		}
	}
	for _, code := range []int{impl.OK, impl.ErrTwice, impl.ErrRange, impl.ErrFull, impl.ErrName, impl.ErrType} {
		if codes[code] < 2 {
			t.Errorf("the codes %v", codes)
		}
	}
}

// What was read stays noted with a code, and nothing is written; the transaction stays open.
func TestP12CodesInATransaction(t *testing.T) {
	s := talk(t, fresh(), "0 insert 1=1: ok 1", "2 begin: ok 0", "2 insert 3=3: ok 1")
	push := command("2 inc *")
	push.Updates = []impl.Update{update(impl.UpPush, "k", intOf(1))}
	x := doIs(t, s, push, "push", impl.Reply{Code: impl.ErrType})
	want := s
	want.Txns = []impl.Txn{withRead(s.Txns[0], "docs", everything())}
	storeIs(t, "push", x, want)
	want.Txns = []impl.Txn{withRead(s.Txns[0], "docs", idIs(1))}
	storeIs(t, "twice", talk(t, s, "2 insert 1=5: twice"), want)
	storeIs(t, "range", talk(t, s, "2 insert 20=5: range"), s)
	storeIs(t, "name", talk(t, s, "2 insert none.5=5: name", "2 find *none: name", "2 inc *none: name", "2 delete *none: name", "2 count *none: name"), s)
	// With as many reads as there may be all is refused but what needs none.
	x = talk(t, s, lines(impl.MaxReads-1, "2 find ?1: ok 1 1=1")...)
	storeIs(t, "full", talk(t, x, "2 find *: full", "2 count *: full", "2 inc *: full", "2 delete *: full", "2 insert 7=7: full", "2 insert 3=7: full", "2 insert 20=7: range", "2 find *none: name"), x)
	x = talk(t, x, "2 commit: ok 0")
	nowIs(t, x, "docs", "1=1 3=3")
	// Of one that was refused for what it asked, all else is committed.
	x = talk(t, s, "2 insert 1=5: twice", "2 insert 20=5: range", "2 find *none: name", "2 commit: ok 0")
	nowIs(t, x, "docs", "1=1 3=3")
}

// aloneIs holds a command to chapter 11 in a transaction of its own, which is committed then.
func aloneIs(t *testing.T, s impl.Store, c impl.Command) impl.Reply {
	t.Helper()
	what := fmt.Sprintf("%d of %s in %s", c.Kind, c.Coll, shownStore(s))
	call := asTxn(s, impl.Txn{Session: c.Session, Snap: s.Clock}, c)
	if call.code != impl.OK {
		t.Fatalf("%s: chapter 11 has %d", what, call.code)
	}
	if call.r.Code != impl.OK {
		storeIs(t, what, doIs(t, s, c, what, call.r), s)
		return call.r
	}
	open := s
	open.Txns = append(slices.Clone(s.Txns), call.x)
	slices.SortFunc(open.Txns, func(x, y impl.Txn) int { return x.Session - y.Session })
	want, r, code := impl.Do(open, impl.Command{Kind: impl.CoCommit, Session: c.Session})
	if code != impl.OK {
		t.Fatalf("%s: its commit has %d", what, code)
	}
	if r.Code == impl.OK {
		r = call.r
	}
	storeIs(t, what, doIs(t, s, c, what, r), want)
	return r
}

func TestP12CommandsAlone(t *testing.T) {
	full := held(t, impl.MaxVersions)
	codes := map[int]int{}
	for _, s := range []impl.Store{
		fresh(), talk(t, fresh(), "0 insert 1=1: ok 1", "0 insert 5=2: ok 1", "0 insert more.1=3: ok 1"), full, dirty(), storeOf(impl.MaxClock, coll("1 2=1"), named("more", "")),
		withTxns(dirty(), "3 2 ?1"), withTxns(dirty(), "1 8 5=7", "3 5 >0 more.1=2"),
	} {
		for _, session := range []int{0, 2} {
			for _, c := range docCommands(session) {
				codes[aloneIs(t, s, c).Code]++
			}
		}
	}
	for _, code := range []int{impl.OK, impl.ErrTwice, impl.ErrRange, impl.ErrFull, impl.ErrName, impl.ErrType, impl.ErrMany} {
		if codes[code] < 2 {
			t.Errorf("the codes %v", codes)
		}
	}
}

// Who asks alone does not matter, and he has nothing open behind it.
func TestP12SessionsAlone(t *testing.T) {
	for session := range 4 {
		say := func(text string) string { return fmt.Sprint(session, " ", text) }
		s := talk(t, fresh(), say("insert 1=1: ok 1"), say("find *: ok 1 1=1"), say("inc *: ok 1"), say("count *: ok 1"), say("insert 1=1: twice"), say("commit: state"), say("delete *: ok 1"), say("find *: ok 0"), say("insert more.1=1: ok 1"))
		storeIs(t, "alone", s, storeOf(7, coll(""), named("more", "1 7=1")))
	}
}

// A count has a find's N, and no documents.
func TestP12FindAndCount(t *testing.T) {
	r := rand.New(rand.NewSource(1202))
	several := 0
	for range 400 {
		pool := poolOf(r, 25)
		s := storeOf(5, collOf(pool...))
		if r.Intn(2) == 0 {
			s = withTxns(s, "1 5 7-")
		}
		c := impl.Command{Kind: impl.CoFind, Session: 1, Coll: "docs", Query: poolQuery(r, pool)}
		x, found, code := impl.Do(s, c)
		c.Kind = impl.CoCount
		y, counted, k := impl.Do(s, c)
		if found.N != len(found.Docs) || !sameReply(counted, impl.Reply{N: found.N}) || found.Code != impl.OK || code != impl.OK || k != impl.OK {
			t.Fatalf("%s, then %s", shownReply(found), shownReply(counted))
		}
		storeIs(t, "counted", y, x)
		if found.N > 1 {
			several++
		}
	}
	if several < 100 {
		t.Errorf("%d times more than one", several)
	}
	s := talk(t, fresh(), "0 insert 1=1: ok 1", "0 insert 2=2: ok 1", "0 insert 3=3: ok 1")
	for _, row := range []struct{ skip, limit, n int }{{0, 0, 3}, {1, 0, 2}, {0, 2, 2}, {2, 2, 1}, {3, 0, 0}, {100, 100, 0}, {0, 100, 3}} {
		c := command("0 count *")
		c.Query.Skip, c.Query.Limit = row.skip, row.limit
		doIs(t, s, c, fmt.Sprint(row), impl.Reply{N: row.n})
	}
}

// Each code of a reply leaves the documents as they were.
func TestP12CodesLeaveTheDocuments(t *testing.T) {
	docs := coded()
	s := storeOf(1, collOf(docs...))
	for _, n := range []int{4, 5} {
		for id, code := range codesOfIds(n) {
			for _, open := range []bool{false, true} {
				x := s
				if open {
					x = talk(t, s, "1 begin: ok 0")
				}
				// All that stand ahead of it by their ids come through.
				c := impl.Command{Kind: impl.CoUpdate, Session: 1, Coll: "docs", Query: impl.Query{Filter: ofIds(id)}, Updates: codedList(n)}
				y, r, k := impl.Do(x, c)
				if r.Code != code || k != impl.OK {
					t.Errorf("an update of %d: %s, %d, not %d", id, shownReply(r), k, code)
				}
				if code != impl.OK && (r.N != 0 || !slices.EqualFunc(y.Colls, x.Colls, sameColl) || y.Clock != 1 || len(y.Done) != 0) {
					t.Errorf("an update of %d: %s, %s", id, shownReply(r), shownStore(y))
				}
			}
		}
	}
	all := impl.Command{Kind: impl.CoUpdate, Coll: "docs", Query: impl.Query{Filter: everything()}, Updates: codedList(4)}
	storeIs(t, "an update of all", doIs(t, s, all, "all", impl.Reply{Code: impl.ErrType}), s)
}

// The collection is looked for ahead of all else.
func TestP12NoSuchCollection(t *testing.T) {
	full := withTxns(storeOf(5, coll("1 2=1"), named("more", "")), "1 5")
	full.Txns[0] = withReads(full.Txns[0], impl.MaxReads)
	for _, s := range []impl.Store{fresh(), dirty(), withTxns(dirty(), "1 3 ?1", "2 8"), full, storeOf(impl.MaxClock, coll("1 2=1")), held(t, impl.MaxVersions)} {
		for _, name := range []string{"none", "doc", "docs_", "Docs", "d", "mor", "twelve_bytes"} {
			for _, c := range oneOfEach() {
				if c.Kind <= impl.CoAbort {
					continue
				}
				c.Coll = name
				what := fmt.Sprint(c.Kind, " of ", name)
				storeIs(t, what, doIs(t, s, c, what, impl.Reply{Code: impl.ErrName}), s)
			}
			c := impl.Command{Kind: impl.CoInsert, Session: 1, Coll: name, Doc: record().value()}
			doIs(t, s, c, "without an id", impl.Reply{Code: impl.ErrName})
		}
	}
}

// Documents are installed as they were handed in, whatever fields they have, and found whole.
func TestP12DocumentsWhole(t *testing.T) {
	doc := record("a", many(num(1), record("id", num(9))), "id", num(4), "z", word(strings.Repeat("x", 200))).value()
	bare := record("id", num(0)).value()
	s := fresh()
	for _, d := range []impl.Value{doc, bare} {
		s = doIs(t, s, impl.Command{Kind: impl.CoInsert, Coll: "more", Doc: d}, "insert", impl.Reply{N: 1})
	}
	s = doIs(t, s, command("0 find *more"), "find", impl.Reply{N: 2, Docs: []impl.Value{bare, doc}})
	if docs, code := impl.DocsNow(s, "more"); !slices.Equal(docs, []impl.Value{bare, doc}) || code != impl.OK {
		t.Errorf("DocsNow: %v, %d", docs, code)
	}
}

// All ids of a collection, and of all three.
func TestP12AllThatAStoreHolds(t *testing.T) {
	s, _ := impl.NewStore([]string{"a", "docs", "more"})
	s = talk(t, s, "0 begin: ok 0")
	for i, name := range []string{"a", "docs", "more"} {
		for id := range impl.TopId + 1 {
			// Each insert reads: there is room for as many only one by one, and alone.
			s = talk(t, s, fmt.Sprintf("1 insert %s.%d=%d: ok 1", name, id, i))
			if len(s.Done) == impl.MaxDone {
				s = talk(t, s, "0 abort: ok 0", "0 begin: ok 0")
			}
		}
	}
	s = talk(t, s, "0 abort: ok 0", "2 begin: ok 0", "2 inc *: ok 20", "2 delete *a: ok 20", "2 inc *more: ok 20", "2 commit: ok 0", "2 count *: ok 20", "2 count *a: ok 0", "2 count >more.2: ok 20")
	n := 0
	for _, c := range s.Colls {
		k, _ := impl.VersionsOf(c)
		n += k
	}
	if n != 40 || s.Clock != 64 {
		t.Errorf("%d versions, the Clock %d", n, s.Clock)
	}
}
