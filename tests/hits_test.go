package tests

import (
	"fmt"
	"math/rand"
	"slices"
	"testing"

	"loop.example/g00380/impl"
)

// readsOf and changesOf are written as done's words are.
func readsOf(text string) []impl.Read { return done("0 1 " + text).Reads }

func changesOf(text string) []impl.Change { return done("0 1 " + text).Changes }

func hitsAre(t *testing.T, what string, reads []impl.Read, changes []impl.Change, want bool) {
	t.Helper()
	if hits, code := impl.Hits(reads, changes); hits != want || code != impl.OK {
		t.Errorf("Hits, %s: %v, %d, not %v", what, hits, code, want)
	}
}

func TestP10HitsOfOneOfBoth(t *testing.T) {
	for text, want := range map[string]bool{
		// Both what was there and what is: by the id.
		"?1 =1": true, "?1 =2": false, "?2 =1": false, "?0 =0": true, "?19 =19": true, "?1 =11": false,
		// One of both alone.
		"?1 +1": true, "?1 -1": true, "?1 +2": false, "?1 -2": false,
		// Neither: nothing was there, nothing is.
		"?1 ~1": false, "?0 ~0": false, "?1 ~2": false,
		// The numbers are 1 ahead and 2 then.
		">0 =1": true, ">1 =1": true, ">2 =1": false,
		">0 -1": true, ">1 -1": false, ">0 +1": true, ">1 +1": true, ">2 +1": false, ">0 ~1": false,
		// Other collections.
		"?more.1 =1": false, "?1 =more.1": false, "?more.1 =more.1": true, "?doc.1 =1": false, "?docs_.1 =1": false, "?Docs.1 =1": false,
		">more.0 =1": false, ">0 =more.1": false, ">more.0 -more.1": true, ">more.1 -more.1": false, "?more.1 +1": false, "?more.1 -1": false,
	} {
		hitsAre(t, text, readsOf(text), changesOf(text), want)
	}
}

func TestP10HitsByWhatWasAhead(t *testing.T) {
	low, high, none := thing(5, 1), thing(5, 9), impl.Value{}
	below := impl.Read{Coll: "docs", Filter: where(term(impl.TeLt, "k", intOf(4)))}
	for _, c := range []struct {
		ahead, then impl.Value
		want        bool
	}{
		{low, low, true}, {low, high, true}, {high, low, true}, {high, high, false},
		{none, low, true}, {none, high, false}, {low, none, true}, {high, none, false}, {none, none, false},
	} {
		x := impl.Change{Write: impl.Write{Coll: "docs", Id: 5, Gone: c.then == none, Doc: c.then}, Before: c.ahead, Was: c.ahead != none}
		hitsAre(t, fmt.Sprint(c.ahead, " to ", c.then), []impl.Read{below}, []impl.Change{x}, c.want)
	}
}

// Nothing is no document: it is let in by no filter, whatever that asks for.
func TestP10HitsOfNothing(t *testing.T) {
	for what, f := range map[string]impl.Filter{
		"all": everything(), "without an id": where(term(impl.TeExists, "id", boolOf(0))), "null": where(term(impl.TeEq, "k", impl.Value{})),
		"another one": where(term(impl.TeNe, "id", intOf(99))), "no text": where(term(impl.TeNe, "k", textOf("x"))),
	} {
		hitsAre(t, what, []impl.Read{{Coll: "docs", Filter: f}}, changesOf("~5 ~0 ~more.5"), false)
	}
	for _, sign := range []string{"+", "=", "-"} {
		hitsAre(t, "all of "+sign, []impl.Read{{Coll: "docs", Filter: everything()}}, changesOf(sign+"5"), true)
		hitsAre(t, "all of more of "+sign, []impl.Read{{Coll: "more", Filter: everything()}}, changesOf(sign+"5"), false)
	}
}

func TestP10HitsOfSeveral(t *testing.T) {
	for text, want := range map[string]bool{
		"": false, "?1": false, "=1": false, "?1 ?2 >0": false, "=1 +2 -3": false,
		"?1 ?2 =3 =4": false, "?1 ?2 =3 =2": true, "?1 ?2 =1 =3": true, "?3 ?1 =1 =2": true, "?1 ?3 =1 =2": true, "?1 ?2 ?3 =4 =5 =3": true,
		"?1 ?more.2 =2 =more.1": false, "?1 ?more.2 =2 =more.2": true, "?1 >more.1 =2 +more.3": true, "?1 >more.1 =2 -more.3": false,
		"?1 ?1 =1": true, "?1 =2 =3 =4 =1": true, "?5 ?4 ?3 ?2 ?1 =1": true,
	} {
		hitsAre(t, text, readsOf(text), changesOf(text), want)
	}
	// A document may be changed twice here: these need not be one's that was committed.
	hitsAre(t, "a document twice", readsOf("?1"), changesOf("=1 =1"), true)
	hitsAre(t, "a document twice", readsOf("?2"), changesOf("=1 -1"), false)
	hitsAre(t, "no lists", []impl.Read{}, []impl.Change{}, false)
}

func TestP10HitsOfLongLists(t *testing.T) {
	for _, n := range []int{20, 21, 60, 61, impl.MaxList - 1, impl.MaxList} {
		reads, changes := slices.Repeat(readsOf("?1"), n), slices.Repeat(changesOf("=2"), n)
		what := fmt.Sprint(n, " of them")
		hitsAre(t, what, reads, changesOf("=2"), false)
		hitsAre(t, what, reads, changesOf("=2 =1"), true)
		hitsAre(t, what, readsOf("?1"), changes, false)
		hitsAre(t, what, readsOf("?1 ?2"), changes, true)
		hitsAre(t, what, nil, changes, false)
		hitsAre(t, what, reads, nil, false)
		// The last one of each is the pair.
		reads[n-1], changes[n-1] = readOf("?7"), changeOf("=7")
		hitsAre(t, what, reads, changesOf("=7"), true)
		hitsAre(t, what, readsOf("?7"), changes, true)
	}
	one, long := impl.MaxList, impl.MaxList+1
	for _, c := range []struct {
		reads   []impl.Read
		changes []impl.Change
		code    int
	}{
		{slices.Repeat(readsOf("?1"), long), nil, impl.ErrLong},
		{slices.Repeat(readsOf("?1"), long), changesOf("=1"), impl.ErrLong},
		{nil, slices.Repeat(changesOf("=1"), long), impl.ErrLong},
		{readsOf("?1"), slices.Repeat(changesOf("=1"), long), impl.ErrLong},
		{make([]impl.Read, long), nil, impl.ErrLong},
		{nil, make([]impl.Change, long), impl.ErrLong},
		{make([]impl.Read, 1), make([]impl.Change, long), impl.ErrLong},
		{make([]impl.Read, long), make([]impl.Change, 1), impl.ErrLong},
		{make([]impl.Read, 2*long), make([]impl.Change, 2*long), impl.ErrLong},
		{make([]impl.Read, one), nil, impl.ErrBad},
		{nil, make([]impl.Change, one), impl.ErrBad},
		{make([]impl.Read, one), make([]impl.Change, one), impl.ErrBad},
		{append(slices.Repeat(readsOf("?1"), one-1), impl.Read{}), changesOf("=1"), impl.ErrBad},
		{readsOf("?1"), append(slices.Repeat(changesOf("=1"), one-1), impl.Change{}), impl.ErrBad},
	} {
		if hits, code := impl.Hits(c.reads, c.changes); hits || code != c.code {
			t.Errorf("Hits of %d, %d: %v, %d, not %d", len(c.reads), len(c.changes), hits, code, c.code)
		}
	}
}

// Only the names of collections, and nothing further in, say whether a read is of a change's.
func TestP10HitsOfNames(t *testing.T) {
	for _, a := range rightNames() {
		for _, b := range rightNames() {
			c := changeOf("=1")
			c.Write.Coll = b
			hitsAre(t, a+" and "+b, []impl.Read{{Coll: a, Filter: everything()}}, []impl.Change{c}, a == b)
		}
	}
}

// A wantedTerm has its value as a tree too.
type wantedTerm struct {
	impl.Term
	want node
}

// A wantedRead is a read, and what lets in a tree.
type wantedRead struct {
	impl.Read
	any [][]wantedTerm
}

func randomRead(r *rand.Rand, x node) wantedRead {
	w := wantedRead{Read: impl.Read{Coll: pick(r, []string{"docs", "docs", "more"})}}
	for range 1 + r.Intn(impl.MaxClauses) {
		c, terms := impl.Clause{}, []wantedTerm{}
		for range 1 + r.Intn(impl.MaxTerms) {
			y, v := randomTerm(r, x)
			c.Terms, terms = append(c.Terms, y), append(terms, wantedTerm{y, v})
		}
		w.Filter.Any, w.any = append(w.Filter.Any, c), append(w.any, terms)
	}
	return w
}

func (w wantedRead) lets(x node) bool {
	return slices.ContainsFunc(w.any, func(terms []wantedTerm) bool {
		return !slices.ContainsFunc(terms, func(y wantedTerm) bool { return !x.lets(y.Op, y.Path, y.want) })
	})
}

// A treeChange has its documents as trees too, nil where there is none.
type treeChange struct {
	impl.Change
	ahead, then *node
}

func randomChange(r *rand.Rand, docs []node) treeChange {
	id := r.Intn(20)
	c := treeChange{Change: impl.Change{Write: impl.Write{Coll: pick(r, []string{"docs", "docs", "more"}), Id: id, Gone: true}}}
	if r.Intn(3) > 0 {
		x := pick(r, docs).without("id").with("id", num(id))
		c.ahead, c.Before, c.Was = &x, x.value(), true
	}
	if r.Intn(3) > 0 {
		x := pick(r, docs).without("id").with("id", num(id))
		c.then, c.Write.Doc, c.Write.Gone = &x, x.value(), false
	}
	return c
}

// Chapter 10's word on whether a read hangs on a change, by trees.
func (w wantedRead) hangsOn(c treeChange) bool {
	return w.Coll == c.Write.Coll && (c.ahead != nil && w.lets(*c.ahead) || c.then != nil && w.lets(*c.then))
}

func TestP10RandomHits(t *testing.T) {
	r := rand.New(rand.NewSource(101))
	docs := slices.DeleteFunc(randomDocs(102, 400), func(x node) bool { return len(x.body()) > 280 })
	count := map[string]int{}
	for range 9000 {
		var reads []impl.Read
		var changes []impl.Change
		var wanted []wantedRead
		want := false
		for range r.Intn(3) {
			w := randomRead(r, pick(r, docs))
			wanted, reads = append(wanted, w), append(reads, w.Read)
		}
		for range r.Intn(3) {
			c := randomChange(r, docs)
			changes = append(changes, c.Change)
			for _, w := range wanted {
				want = want || w.hangsOn(c)
			}
		}
		hitsAre(t, shownDone(impl.Done{Reads: reads, Changes: changes}), reads, changes, want)
		count[fmt.Sprint(len(reads) > 0 && len(changes) > 0, want)]++
	}
	if count["true true"] < 500 || count["true false"] < 500 {
		t.Errorf("hits and not: %v", count)
	}
}
