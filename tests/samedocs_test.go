package tests

import (
	"fmt"
	"math"
	"math/rand"
	"slices"
	"testing"

	"loop.example/g00380/impl"
)

// docsAreSame holds SameDocs of two stores, either way, to a bool and a code.
func docsAreSame(t *testing.T, what string, a, b impl.Store, want bool, code int) {
	t.Helper()
	for _, pair := range [][2]impl.Store{{a, b}, {b, a}} {
		if same, c := impl.SameDocs(pair[0], pair[1]); same != want || c != code {
			t.Errorf("SameDocs, %s, of %s and %s: %v, %d, not %v, %d", what, shownStore(pair[0]), shownStore(pair[1]), same, c, want, code)
		}
	}
}

func TestP13SameDocuments(t *testing.T) {
	for what, pair := range map[string][2]impl.Store{
		"nothing":          {storeOf(0, coll("")), storeOf(0, coll(""))},
		"another Clock":    {storeOf(2, coll("1 2=1")), storeOf(9, coll("1 2=1"))},
		"the last Clock":   {storeOf(2, coll("1 2=1")), storeOf(impl.MaxClock, coll("1 10000=1"))},
		"another At":       {storeOf(9, coll("1 2=1|5 3=3")), storeOf(9, coll("1 9=1|5 1=3"))},
		"older versions":   {storeOf(9, coll("1 2=1")), storeOf(9, coll("1 2=7 4- 6=1"))},
		"one that is Gone": {storeOf(9, coll("1 2=1")), storeOf(9, coll("1 2=1|5 3=3 4-|7 1-"))},
		"all of it Gone":   {storeOf(0, coll("")), storeOf(9, coll("1 2=1 3-|5 9-"))},
		"an index":         {storeOf(9, coll("1 2=1")), storeOf(9, coll("1 2=1", def("one", "k"), def("two", "-a.b", "k")))},
		"other indexes":    {storeOf(9, coll("1 2=1", def("one", "k"))), storeOf(9, coll("1 2=1", def("one", "a")))},
		"an open one":      {storeOf(9, coll("1 2=1")), withTxns(storeOf(9, coll("1 2=1")), "0 9")},
		"open ones":        {withTxns(storeOf(9, coll("1 2=1")), "2 3 ?1 1-"), withTxns(storeOf(9, coll("1 2=1")), "0 1 1=9 5=5", "1 5 >3 8=8")},
		"committed ones":   {storeOf(9, coll("1 2=1")), withDone(storeOf(9, coll("1 2=1")), "0 3 ?1 =2|4 9 =1")},
		"three":            {storeOf(9, named("a", ""), coll("1 2=1"), named("more", "3 1=1 7=2")), storeOf(8, named("a", "2 4-"), coll("1 1=5 8=1"), named("more", "3 8=2"))},
	} {
		docsAreSame(t, what, pair[0], pair[1], true, impl.OK)
		docsAreSame(t, what, pair[0], pair[0], true, impl.OK)
	}
}

func TestP13OtherDocuments(t *testing.T) {
	s := storeOf(9, coll("1 2=1|5 3=3"), named("more", "5 4=5"))
	for what, x := range map[string]impl.Store{
		"a document more":             storeOf(9, coll("1 2=1|2 2=1|5 3=3"), named("more", "5 4=5")),
		"a document less":             storeOf(9, coll("1 2=1"), named("more", "5 4=5")),
		"another one":                 storeOf(9, coll("1 2=1|6 3=3"), named("more", "5 4=5")),
		"another number":              storeOf(9, coll("1 2=1|5 3=4"), named("more", "5 4=5")),
		"a newer version":             storeOf(9, coll("1 2=1 8=2|5 3=3"), named("more", "5 4=5")),
		"a newer one that is Gone":    storeOf(9, coll("1 2=1 9-|5 3=3"), named("more", "5 4=5")),
		"another one of the last":     storeOf(9, coll("1 2=1|5 3=3"), named("more", "5 4=6")),
		"none in the last":            storeOf(9, coll("1 2=1|5 3=3"), named("more", "")),
		"none":                        storeOf(9, coll(""), named("more", "")),
		"in the other collection":     storeOf(9, coll("5 4=5"), named("more", "1 2=1|5 3=3")),
		"in one collection":           storeOf(9, coll("1 2=1|5 3=3"), named("more", "1 2=1|5 4=5")),
		"another name":                storeOf(9, coll("1 2=1|5 3=3"), named("most", "5 4=5")),
		"another name ahead":          storeOf(9, named("a", "1 2=1|5 3=3"), named("more", "5 4=5")),
		"a longer name":               storeOf(9, coll("1 2=1|5 3=3"), named("more_", "5 4=5")),
		"other letters":               storeOf(9, coll("1 2=1|5 3=3"), named("morE", "5 4=5")),
		"a collection more":           storeOf(9, coll("1 2=1|5 3=3"), named("more", "5 4=5"), named("z", "")),
		"a collection more, ahead":    storeOf(9, named("a", ""), coll("1 2=1|5 3=3"), named("more", "5 4=5")),
		"a collection more, between":  storeOf(9, coll("1 2=1|5 3=3"), named("m", "5 4=5"), named("more", "5 4=5")),
		"a collection less":           storeOf(9, coll("1 2=1|5 3=3")),
		"the other collection less":   storeOf(9, named("more", "5 4=5")),
		"a document of another shape": {Clock: 9, Colls: []impl.Coll{collOf(record("id", num(1), "k", num(1)), record("id", num(5), "k", word("3"))), named("more", "5 4=5")}},
		"a field more":                {Clock: 9, Colls: []impl.Coll{collOf(record("id", num(1), "k", num(1)), record("id", num(5), "k", num(3), "n", node{})), named("more", "5 4=5")}},
	} {
		docsAreSame(t, what, s, x, false, impl.OK)
	}
	// Empty ones, too, have names.
	docsAreSame(t, "empty ones", storeOf(0, coll("")), storeOf(0, named("more", "")), false, impl.OK)
	docsAreSame(t, "empty ones", storeOf(0, coll("")), fresh(), false, impl.OK)
}

// What an open one wrote is nobody's documents yet; once it is committed, it is.
func TestP13SameDocumentsInATalk(t *testing.T) {
	s := talk(t, fresh(), "0 insert 1=1: ok 1", "0 insert 2=2: ok 1")
	x := talk(t, s, "1 begin: ok 0", "1 inc *: ok 2", "1 insert 3=3: ok 1")
	docsAreSame(t, "open", s, x, true, impl.OK)
	docsAreSame(t, "aborted", s, talk(t, x, "1 abort: ok 0"), true, impl.OK)
	docsAreSame(t, "committed", s, talk(t, x, "1 commit: ok 0"), false, impl.OK)
	docsAreSame(t, "asked", s, talk(t, s, "0 find *: ok 2 1=1 2=2", "0 insert 2=9: twice", "0 index docs.one k: ok 0"), true, impl.OK)
	docsAreSame(t, "there and back", s, talk(t, s, "0 insert 3=3: ok 1", "0 delete ?3: ok 1", "0 delete ?1: ok 1", "0 insert 1=1: ok 1"), true, impl.OK)
}

func TestP13SameDocumentsOfWrongStores(t *testing.T) {
	right := storeOf(9, coll("1 2=1"), named("more", ""))
	for what, x := range map[string]impl.Store{
		"a zero one": {}, "no collections": {Clock: 9}, "a Clock of -1": storeOf(-1, coll("")), "a Clock too great": storeOf(impl.MaxClock+1, coll("1 2=1")), "behind the Clock": storeOf(1, coll("1 2=1"), named("more", "")),
		"four": storeOf(9, named("a", ""), named("b", ""), named("c", ""), named("d", "")), "falling": storeOf(9, named("more", ""), coll("1 2=1")), "a wrong transaction": withTxns(right, "4 5"), "a write of no collection": withTxns(right, "0 5 none.1=1"),
		"a wrong Done": withDone(right, "3 3"), "a pivot": withDone(right, "0 3 in out"), "a wrong name": storeOf(9, named("9", "")),
	} {
		docsAreSame(t, what, x, x, false, impl.ErrBad)
		docsAreSame(t, what, x, right, false, impl.ErrBad)
		docsAreSame(t, what, x, impl.Store{}, false, impl.ErrBad)
		// Also where it would not be the same anyhow, or has other names.
		docsAreSame(t, what, x, storeOf(0, named("z", "")), false, impl.ErrBad)
	}
}

func TestP13RandomStoresDocuments(t *testing.T) {
	r := rand.New(rand.NewSource(1320))
	count := map[bool]int{}
	for range 1500 {
		docs := poolOf(r, 1+r.Intn(4))
		a, b := storeOf(5, collOf(docs...)), storeOf(7, collOf(docs...))
		for range r.Intn(25) {
			b, _, _ = impl.Do(b, poolCommand(r, docs))
		}
		want := slices.Equal(mustNow(t, a, "docs"), mustNow(t, b, "docs"))
		count[want]++
		docsAreSame(t, "random ones", a, b, want, impl.OK)
	}
	if count[true] < 300 || count[false] < 300 {
		t.Errorf("the same and not: %v", count)
	}
}

// repliesAreSame holds SameReply, either way, to a bool.
func repliesAreSame(t *testing.T, a, b impl.Reply, want bool) {
	t.Helper()
	if impl.SameReply(a, b) != want || impl.SameReply(b, a) != want {
		t.Errorf("SameReply of %s and %s: not %v", shownReply(a), shownReply(b), want)
	}
}

func TestP13SameReplies(t *testing.T) {
	all := []impl.Reply{
		{}, {N: 1}, {N: 2}, {N: -1}, {N: 1001}, {N: math.MaxInt}, {N: math.MinInt}, {Code: 1}, {Code: impl.ErrOrder}, {Code: 20}, {Code: -1}, {Code: math.MinInt}, {Code: 1, N: 1}, {Code: impl.ErrTwice, N: 1},
		reply("ok 1 1=1"), reply("ok 0 1=1"), reply("ok 1 1=2"), reply("ok 1 2=1"), reply("ok 2 1=1 2=2"), reply("ok 2 2=2 1=1"), reply("ok 2 1=1 1=1"), reply("ok 1 1=1 1=1"), reply("ok 2 1=1 2=3"), reply("ok 2 1=1"), reply("ok 3 1=1 2=2 3=3"), reply("ok 3 1=1 3=3 2=2"),
		{Code: 1, N: 1, Docs: things("1=1")}, {Docs: []impl.Value{{}}}, {Docs: []impl.Value{{}, {}}}, {Docs: []impl.Value{{Kind: 9, N: -1, T: "x"}}}, {Docs: []impl.Value{{Kind: 9, N: -1, T: "y"}}}, {Docs: []impl.Value{{Kind: 9, T: "x"}}}, {Docs: []impl.Value{{N: -1, T: "x"}}},
		{Docs: []impl.Value{intOf(1)}}, {Docs: []impl.Value{boolOf(1)}}, {Docs: []impl.Value{raw(impl.VaText, "")}}, {Docs: []impl.Value{raw(impl.VaList, "")}}, {Docs: []impl.Value{raw(impl.VaDoc, "")}},
	}
	for i, a := range all {
		for j, b := range all {
			b.Docs = slices.Clone(b.Docs)
			repliesAreSame(t, a, b, i == j)
		}
	}
	for _, n := range []int{0, 5} {
		repliesAreSame(t, impl.Reply{N: n}, impl.Reply{N: n, Docs: []impl.Value{}}, true)
		repliesAreSame(t, impl.Reply{N: n}, impl.Reply{N: n, Docs: make([]impl.Value, 0, 9)}, true)
		repliesAreSame(t, impl.Reply{N: n}, impl.Reply{N: n, Docs: make([]impl.Value, 1)}, false)
	}
}

func TestP13SameRepliesOfManyDocuments(t *testing.T) {
	of := func(n int) impl.Reply { return impl.Reply{N: 3, Docs: copies(n, thing(3, 4))} }
	for _, n := range []int{99, 100, 101, impl.MaxList - 1, impl.MaxList} {
		repliesAreSame(t, of(n), of(n), true)
		repliesAreSame(t, of(n), of(n-1), false)
		for _, place := range []int{0, n / 2, n - 1} {
			r := of(n)
			r.Docs[place] = thing(3, 5)
			repliesAreSame(t, of(n), r, false)
		}
	}
	for _, n := range []int{impl.MaxList + 1, impl.MaxList + 2, 2 * impl.MaxList} {
		r := of(n)
		repliesAreSame(t, r, r, false)
		for _, other := range []int{n, n - 1, impl.MaxList, impl.MaxList + 1, 0} {
			repliesAreSame(t, r, of(other), false)
		}
		repliesAreSame(t, impl.Reply{Docs: make([]impl.Value, n)}, impl.Reply{Docs: make([]impl.Value, n)}, false)
	}
}

// Each document is asked, whatever the ones ahead of it are.
func TestP13RandomReplies(t *testing.T) {
	r := rand.New(rand.NewSource(1321))
	docs := values(randomDocs(1322, 30))
	for range 500 {
		a := impl.Reply{Code: r.Intn(20), N: r.Intn(4)}
		for range r.Intn(6) {
			a.Docs = append(a.Docs, pick(r, docs))
		}
		b := impl.Reply{Code: a.Code, N: a.N, Docs: slices.Clone(a.Docs)}
		repliesAreSame(t, a, b, true)
		if len(a.Docs) == 0 {
			continue
		}
		at := r.Intn(len(a.Docs))
		b.Docs[at] = pick(r, docs)
		repliesAreSame(t, a, b, fmt.Sprint(a.Docs[at]) == fmt.Sprint(b.Docs[at]))
		repliesAreSame(t, a, impl.Reply{Code: a.Code, N: a.N, Docs: slices.Delete(slices.Clone(a.Docs), at, at+1)}, false)
	}
}
