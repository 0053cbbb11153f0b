package tests

import (
	"fmt"
	"math/rand"
	"slices"
	"strings"
	"testing"

	"loop.example/g00380/impl"
)

// docsAre holds TxnDocs, and a TxnFind of all, to things in the order of their ids.
func docsAre(t *testing.T, x impl.Txn, c impl.Coll, want string) {
	t.Helper()
	docs, code := impl.TxnDocs(x, c)
	if s := seen(t, docs); s != want || code != impl.OK {
		t.Errorf("TxnDocs(%s, %s) = %q, %d, not %q", shownTxn(x), shownColl(c), s, code, want)
	}
	callOf(impl.TxnFind(x, c, impl.Query{Filter: everything()})).is(t, shownTxn(x), withRead(x, c.Name, everything()), impl.Reply{Docs: docs, N: len(docs)})
}

// Without writes there is just what the snapshot sees.
func TestP11DocsWithoutWrites(t *testing.T) {
	for _, text := range []string{"", "5 3=1", "5 3-", "5 3=1 7=2", "5 3=1 7- 9=2", "0 9=1|2 5=2 7=3|3 1-|7 3=4 6-|11 2=5 8=6|19 1=7", "0 10000=1|19 1=1 10000-"} {
		for _, defs := range [][]impl.Def{nil, {def("one", "k"), def("two", "-id")}} {
			c := coll(text, defs...)
			for _, snap := range []int{0, 1, 2, 3, 4, 5, 6, 7, 8, 9, 10, 9999, 10000} {
				want, _ := impl.SeenAt(c, snap)
				docsAre(t, impl.Txn{Session: snap % 4, Snap: snap}, c, seen(t, want))
				docsAre(t, impl.Txn{Snap: snap, Reads: []impl.Read{readOf("?5"), readOf(">more.0")}}, c, seen(t, want))
			}
		}
	}
	every := allChains(impl.MaxVersions)
	for snap := range 80 {
		want, _ := impl.SeenAt(every, snap)
		docsAre(t, impl.Txn{Snap: snap}, every, seen(t, want))
	}
}

func TestP11DocsWithWrites(t *testing.T) {
	// 1 is there from 2 on and changed at 6, 5 goes at 4, 9 comes at 5, 12 was gone from the beginning.
	c := coll("1 2=1 6=2|5 1=3 4-|9 5=4|12 1-")
	for writes, rows := range map[string]map[int]string{
		"":                       {0: "", 1: "5=3", 2: "1=1 5=3", 3: "1=1 5=3", 4: "1=1", 5: "1=1 9=4", 6: "1=2 9=4", 10000: "1=2 9=4"},
		"3=7":                    {0: "3=7", 1: "3=7 5=3", 3: "1=1 3=7 5=3", 4: "1=1 3=7", 6: "1=2 3=7 9=4"},
		"1=7":                    {0: "1=7", 1: "1=7 5=3", 3: "1=7 5=3", 6: "1=7 9=4"},
		"1-":                     {0: "", 1: "5=3", 3: "5=3", 4: "", 6: "9=4"},
		"5=7":                    {0: "5=7", 1: "5=7", 3: "1=1 5=7", 4: "1=1 5=7", 6: "1=2 5=7 9=4"},
		"5-":                     {0: "", 1: "", 3: "1=1", 4: "1=1", 6: "1=2 9=4"},
		"12=7":                   {0: "12=7", 1: "5=3 12=7", 6: "1=2 9=4 12=7"},
		"12-":                    {0: "", 1: "5=3", 6: "1=2 9=4"},
		"7-":                     {0: "", 3: "1=1 5=3", 10000: "1=2 9=4"},
		"0=7 19=8":               {0: "0=7 19=8", 3: "0=7 1=1 5=3 19=8", 6: "0=7 1=2 9=4 19=8"},
		"0- 1- 5- 9- 12- 19-":    {0: "", 1: "", 3: "", 5: "", 6: "", 10000: ""},
		"0=9 1=1 5- 9=8 10=7":    {0: "0=9 1=1 9=8 10=7", 3: "0=9 1=1 9=8 10=7", 5: "0=9 1=1 9=8 10=7", 6: "0=9 1=1 9=8 10=7"},
		"1=1":                    {0: "1=1", 3: "1=1 5=3", 6: "1=1 9=4"},
		"1=7 9-":                 {4: "1=7", 5: "1=7", 6: "1=7"},
		"a.1=7 doc.1-":           {0: "", 3: "1=1 5=3"},
		"more.1=7 more.3=8":      {0: "", 3: "1=1 5=3", 6: "1=2 9=4"},
		"more.1- more.5- zz.9=0": {1: "5=3", 3: "1=1 5=3", 6: "1=2 9=4"},
		"Docs.5- a.1- docs.3=7 docs.9- docs_.1- more.3- more.5-": {1: "3=7 5=3", 3: "1=1 3=7 5=3", 6: "1=2 3=7"},
	} {
		for snap, want := range rows {
			docsAre(t, txn(fmt.Sprint("0 ", snap, " ", writes)), c, want)
			docsAre(t, txn(fmt.Sprint("3 ", snap, " ?1 ?2 ", writes)), c, want)
		}
	}
}

// Of a collection that has another name only its own writes show.
func TestP11DocsOfOtherCollections(t *testing.T) {
	x := txn("0 5 a.1=1 b.1=2 b.2- docs.3=3")
	for name, want := range map[string]string{"a": "1=1 2=9", "b": "1=2", "docs": "1=8 2=9 3=3", "c": "1=8 2=9", "A": "1=8 2=9", "aa": "1=8 2=9"} {
		c := coll("1 5=8|2 4=9")
		c.Name = name
		docsAre(t, x, c, want)
	}
}

func TestP11DocsOfAllIds(t *testing.T) {
	for _, c := range []impl.Coll{coll(""), allChains(1), allChains(impl.MaxVersions)} {
		x, want := impl.Txn{Snap: 20}, []string{}
		for id := range impl.TopId + 1 {
			x.Writes = append(x.Writes, put(id, 50+id))
			want = append(want, fmt.Sprintf("%d=%d", id, 50+id))
		}
		docsAre(t, x, c, strings.Join(want, " "))
		for id := range impl.TopId + 1 {
			x.Writes[id] = gone(id)
			docsAre(t, x, c, strings.Join(want[id+1:], " "))
		}
	}
}

// Documents are seen as they were written, whatever fields they have.
func TestP11DocsWhole(t *testing.T) {
	doc := record("a", many(num(1), record("id", num(9))), "id", num(4), "z", word(strings.Repeat("x", 200))).value()
	bare := record("id", num(7)).value()
	x := withWrites(txn("0 1"), impl.Write{Coll: "docs", Id: 4, Doc: doc}, impl.Write{Coll: "docs", Id: 7, Doc: bare})
	if docs, code := impl.TxnDocs(x, coll("4 1=1|7 1=1")); !slices.Equal(docs, []impl.Value{doc, bare}) || code != impl.OK {
		t.Errorf("TxnDocs: %v, %d", docs, code)
	}
}

// wrongColls are wrong in one thing each.
func wrongColls() map[string]impl.Coll {
	right := rightHanded().c
	list := map[string]impl.Coll{
		"a zero one": {}, "an id twice": coll("1 2=1|1 3=1"), "falling ids": coll("5 1=1|1 1=1"), "the id 20": coll("20 1-"), "the id -1": coll("-1 1-"), "no version": coll("1 2=1|5"), "falling times": coll("5 3=1 2=1"),
		"a time twice": coll("5 3=1 3=1"), "the time 0": coll("5 0=1"), "the time 10001": coll("5 10001-"), "two definitions of a name": coll("5 3=1", def("one", "a"), def("one", "b")),
		"a definition without a path": coll("5 3=1", def("one")), "four definitions": coll("5 3=1", def("one", "a"), def("two", "a"), def("three", "a"), def("four", "a")),
		"13 versions":       {Name: "docs", Chains: []impl.Chain{{Id: 5, Versions: slices.Concat(allChains(12).Chains[5].Versions, []impl.Version{{At: 99, Gone: true}})}}},
		"another's id":      {Name: "docs", Chains: []impl.Chain{{Id: 5, Versions: []impl.Version{{At: 1, Doc: thing(4, 1)}}}}},
		"Gone with its own": {Name: "docs", Chains: []impl.Chain{{Id: 5, Versions: []impl.Version{{At: 1, Gone: true, Doc: thing(5, 1)}}}}},
		"no document":       {Name: "docs", Chains: []impl.Chain{{Id: 5, Versions: []impl.Version{{At: 1}}}}},
	}
	for _, name := range append(wrongNames(), strings.Repeat("n", impl.MaxText+1)) {
		c := right
		c.Name = name
		list[fmt.Sprintf("the name %.20q", name)] = c
	}
	return list
}

func TestP11WrongCollections(t *testing.T) {
	h := rightHanded()
	for what, c := range wrongColls() {
		h.c = c
		for _, x := range []impl.Txn{txn("0 5"), txn("3 0 ?1 1=1 5- more.2=1"), withReads(txn("1 9"), impl.MaxReads), {Session: 4}} {
			allFail(t, what, x, h)
		}
	}
}

func TestP11ChangedCollections(t *testing.T) {
	r := rand.New(rand.NewSource(1101))
	count := map[bool]int{}
	for range 1500 {
		h := rightHanded()
		h.c = junkColl(r)
		x := txn(fmt.Sprint(r.Intn(4), " ", r.Intn(30)))
		right := collRight(h.c)
		count[right]++
		if !right {
			allFail(t, shownColl(h.c), x, h)
			continue
		}
		want, _ := impl.SeenAt(h.c, x.Snap)
		if docs, code := impl.TxnDocs(x, h.c); !slices.Equal(docs, want) || code != impl.OK {
			t.Errorf("TxnDocs(%s): %v, %d", shownColl(h.c), docs, code)
		}
	}
	if count[true] < 300 || count[false] < 300 {
		t.Errorf("right and not: %v", count)
	}
}

// What others commit behind its snapshot, and vacuums up to it, a transaction does not feel.
func TestP11LaterVersionsAreNotSeen(t *testing.T) {
	r := rand.New(rand.NewSource(1102))
	for range 300 {
		c := coll("")
		for at := 1; at < 20; at++ {
			id := r.Intn(8)
			d, code := impl.Install(c, at, pick(r, []impl.Write{put(id, at), put(id, at), gone(id)}))
			if code == impl.OK {
				c = d
			}
		}
		x := withWrites(impl.Txn{Snap: r.Intn(20)}, put(r.Intn(4), 77), gone(4+r.Intn(4)))
		before, _ := impl.TxnDocs(x, c)
		for at := 20; at < 30; at++ {
			id := r.Intn(impl.TopId + 1)
			d, code := impl.Install(c, at, pick(r, []impl.Write{put(id, at), gone(id)}))
			if code == impl.OK {
				c = d
			}
			docsAre(t, x, c, seen(t, before))
		}
		c, _ = impl.Vacuum(c, x.Snap)
		docsAre(t, x, c, seen(t, before))
	}
}
