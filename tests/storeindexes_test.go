package tests

import (
	"fmt"
	"math/rand"
	"slices"
	"testing"

	"loop.example/g00380/impl"
)

// defsAre holds a collection's definitions to names, in their order.
func defsAre(t *testing.T, s impl.Store, place int, names ...string) {
	t.Helper()
	var got []string
	for _, d := range s.Colls[place].Defs {
		got = append(got, d.Name)
	}
	if !slices.Equal(got, names) {
		t.Errorf("the definitions %v, not %v", got, names)
	}
}

func TestP12IndexAndDrop(t *testing.T) {
	s := talk(t, dirty(), "0 index docs.one k: ok 0")
	want := dirty()
	want.Colls[0].Defs = []impl.Def{def("one", "k")}
	// Nothing else is done: no time goes by, and nothing is cleaned up.
	storeIs(t, "an index", s, want)
	s = talk(t, s, "3 index docs.two -a.b id: ok 0", "2 index more.one id -k: ok 0", "1 index docs.three k: ok 0")
	want.Colls[0].Defs = []impl.Def{def("one", "k"), def("two", "-a.b", "id"), def("three", "k")}
	want.Colls[1].Defs = []impl.Def{def("one", "id", "-k")}
	storeIs(t, "indexes", s, want)
	s = talk(t, s, "0 drop docs.two: ok 0", "0 drop docs.two: none", "0 index docs.two k: ok 0")
	defsAre(t, s, 0, "one", "three", "two")
	defsAre(t, s, 1, "one")
	s = talk(t, s, "0 drop docs.one: ok 0", "0 drop docs.two: ok 0", "0 drop docs.three: ok 0", "0 drop more.one: ok 0", "0 drop more.one: none")
	storeIs(t, "none", s, dirty())
}

func TestP12CodesOfIndexes(t *testing.T) {
	s := talk(t, fresh(), "0 index docs.one k: ok 0")
	s = talk(t, s, "0 index docs.one k: twice", "0 index docs.one a: twice", "1 index docs.one -k: twice", "0 index docs.One k: ok 0", "0 index more.one k: ok 0", "0 drop docs.on: none", "0 drop docs.one_: none", "0 drop more.One: none")
	// A name that is there already is told ahead of it that there is no room.
	s = talk(t, s, "0 index docs.three a: ok 0", "0 index docs.four a: full", "0 index docs.one k: twice", "0 index docs.three k: twice", "0 index docs.One k: twice", "0 index more.two a: ok 0", "0 index more.three a: ok 0", "0 index more.four a: full", "0 index more.one a: twice")
	defsAre(t, s, 0, "one", "One", "three")
	defsAre(t, s, 1, "one", "two", "three")
	s = talk(t, s, "0 drop docs.one: ok 0", "0 index docs.four a: ok 0", "0 index docs.one k: full")
	defsAre(t, s, 0, "One", "three", "four")
	talk(t, fresh(), "0 drop docs.one: none", "0 drop more.one: none")
}

// No such collection is told ahead of it that something is open, and that ahead of all else.
func TestP12IndexesWhileSomethingIsOpen(t *testing.T) {
	s := talk(t, fresh(), "0 index docs.one k: ok 0", "0 index docs.two k: ok 0", "0 index docs.three k: ok 0")
	for session := range 4 {
		x := talk(t, s, fmt.Sprint(session, " begin: ok 0"))
		for other := range 4 {
			for _, text := range []string{"index docs.one k: busy", "index docs.four k: busy", "index more.one k: busy", "drop docs.one: busy", "drop docs.none: busy", "drop more.one: busy", "index none.one k: name", "drop none.one: name"} {
				line := fmt.Sprint(other, " ", text)
				storeIs(t, line, talk(t, x, line), x)
			}
		}
		x = talk(t, x, fmt.Sprint(session, " begin: state"), "0 find *: ok 0")
		talk(t, x, fmt.Sprint(session, " abort: ok 0"), "0 drop docs.one: ok 0", "0 index docs.four k: ok 0")
		talk(t, x, fmt.Sprint(session, " commit: ok 0"), "0 drop docs.one: ok 0", "0 index docs.four k: ok 0")
	}
	x := talk(t, s, "0 begin: ok 0", "1 begin: ok 0", "0 abort: ok 0", "0 drop docs.one: busy", "1 inc *: ok 0", "1 commit: ok 0", "0 drop docs.one: ok 0")
	defsAre(t, x, 0, "two", "three")
}

// Indexes are dropped and made without any regard to what stands in the collection.
func TestP12IndexesOfManyKeys(t *testing.T) {
	// So many keys that no tree has room for them.
	list := many()
	for i := range 20 {
		list.items = append(list.items, num(i))
	}
	s := fresh()
	for id := range impl.TopId + 1 {
		doc := record("a", list, "id", num(id)).value()
		s = doIs(t, s, impl.Command{Kind: impl.CoInsert, Coll: "docs", Doc: doc}, "insert", impl.Reply{N: 1})
	}
	if _, code := impl.BuildIndex(def("one", "a"), mustNow(t, s, "docs")); code != impl.ErrFull {
		t.Fatalf("BuildIndex: %d", code)
	}
	s = talk(t, s, "0 index docs.one a: ok 0", "0 count *: ok 20", "0 delete *: ok 20", "0 count *: ok 0", "0 drop docs.one: ok 0")
	storeIs(t, "none is left", s, storeOf(23, coll(""), named("more", "")))
}

func mustNow(t *testing.T, s impl.Store, name string) []impl.Value {
	t.Helper()
	docs, code := impl.DocsNow(s, name)
	if code != impl.OK {
		t.Fatalf("DocsNow of %s: %d", name, code)
	}
	return docs
}

// withoutDefs is s without any definition.
func withoutDefs(s impl.Store) impl.Store {
	s.Colls = slices.Clone(s.Colls)
	for i := range s.Colls {
		s.Colls[i].Defs = nil
	}
	return s
}

// The same commands with indexes that come and go, and without any, have the same replies, and leave
// the same store.
func TestP12IndexesChangeNoAnswer(t *testing.T) {
	paths := []string{"a", "-a", "b", "-b", "b.c", "-b.c", "id", "-id", "no"}
	counts := map[string]int{}
	for seed := range int64(40) {
		r := rand.New(rand.NewSource(seed))
		pool := poolOf(r, 30)
		plain := storeOf(1, named("a", ""), collOf(slices.DeleteFunc(poolOf(r, 20), func(x node) bool { return r.Intn(4) == 0 })...))
		rich := talk(t, plain, "0 index docs.one a: ok 0", "0 index docs.two -b.c id: ok 0", "0 index a.one -id: ok 0")
		for range 60 {
			if r.Intn(3) == 0 {
				c := impl.Command{Kind: pick(r, []int{impl.CoIndex, impl.CoIndex, impl.CoDrop}), Session: r.Intn(4), Coll: pick(r, []string{"a", "docs"}), Def: def(pick(r, []string{"one", "two", "three", "four"}), pick(r, paths))}
				x, reply, _ := impl.Do(rich, c)
				rich = x
				counts[impl.CodeWord(reply.Code)]++
			}
			c := poolCommand(r, pool)
			c.Query.Hint = pick(r, []string{"", "one", "two", "none"})
			x, got, code := impl.Do(rich, c)
			y, want, k := impl.Do(plain, c)
			if !sameReply(got, want) || code != k || code != impl.OK {
				t.Fatalf("%d of %s: %s with indexes, %s without", c.Kind, c.Coll, shownReply(got), shownReply(want))
			}
			storeIs(t, "with indexes and without", withoutDefs(x), y)
			if got.N > 1 && len(rich.Colls[0].Defs)+len(rich.Colls[1].Defs) > 2 {
				counts[fmt.Sprint("several of ", c.Kind)]++
			}
			rich, plain = x, y
		}
	}
	for what, n := range map[string]int{"ok": 100, "busy": 100, "twice": 10, "full": 3, "none": 10, "several of 5": 50, "several of 6": 20, "several of 7": 20, "several of 8": 20} {
		if counts[what] < n {
			t.Errorf("%s: %d times only", what, counts[what])
		}
	}
}

// poolCommand is one of a session that begins as often as it ends.
func poolCommand(r *rand.Rand, pool []node) impl.Command {
	c := impl.Command{Session: r.Intn(4), Coll: pick(r, []string{"a", "docs", "docs"})}
	c.Kind = pick(r, []int{impl.CoBegin, impl.CoCommit, impl.CoAbort, impl.CoInsert, impl.CoInsert, impl.CoInsert, impl.CoInsert, impl.CoInsert, impl.CoFind, impl.CoFind, impl.CoFind, impl.CoCount, impl.CoCount, impl.CoUpdate, impl.CoUpdate, impl.CoDelete})
	switch c.Kind {
	case impl.CoInsert:
		c.Doc = pick(r, pool).value()
	case impl.CoFind, impl.CoCount:
		c.Query = poolQuery(r, pool)
	case impl.CoUpdate:
		c.Query.Filter, c.Updates = runFilter(r, pool), runUpdates(r)
		if r.Intn(2) == 0 {
			c.Updates = []impl.Update{update(impl.UpSet, pick(r, []string{"a", "b", "no"}), intOf(r.Intn(4)))}
		}
	case impl.CoDelete:
		c.Query.Filter = runFilter(r, pool)
	}
	return c
}
