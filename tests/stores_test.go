package tests

import (
	"fmt"
	"math"
	"math/rand"
	"slices"
	"strings"
	"testing"

	"loop.example/g00380/impl"
)

// storeOf has these collections and nothing else.
func storeOf(clock int, colls ...impl.Coll) impl.Store { return impl.Store{Clock: clock, Colls: colls} }

// withTxns is s with these transactions, written as txn has them.
func withTxns(s impl.Store, texts ...string) impl.Store {
	s.Txns = nil
	for _, text := range texts {
		s.Txns = append(s.Txns, txn(text))
	}
	return s
}

// withDone is s with those that were committed, written as dones has them.
func withDone(s impl.Store, text string) impl.Store {
	s.Done = dones(text)
	return s
}

func sameStore(a, b impl.Store) bool {
	return a.Clock == b.Clock && slices.EqualFunc(a.Colls, b.Colls, sameColl) && slices.EqualFunc(a.Txns, b.Txns, sameTxn) && sameDones(a.Done, b.Done)
}

func isZeroStore(s impl.Store) bool { return sameStore(s, impl.Store{}) }

func shownStore(s impl.Store) string {
	var parts []string
	for _, c := range s.Colls {
		parts = append(parts, shownColl(c))
	}
	for _, x := range s.Txns {
		parts = append(parts, "txn "+shownTxn(x))
	}
	return fmt.Sprintf("%d: %.1500s %s", s.Clock, strings.Join(parts, " / "), shownDones(s.Done))
}

// oneOfEach is a right command of each Kind, in the order of the Kinds.
func oneOfEach() []impl.Command {
	return []impl.Command{
		command("1 begin"), command("1 commit"), command("1 abort"), command("1 insert 7=1"), command("1 find *"),
		command("1 inc *"), command("1 delete *"), command("1 count *"), command("1 index docs.new k"), command("1 drop docs.new"),
	}
}

// wrongStore holds all calls to it that a store isn't right, whatever else they are given.
func wrongStore(t *testing.T, what string, s impl.Store) {
	t.Helper()
	if impl.StoreOK(s) {
		t.Errorf("StoreOK, %s: it is right", what)
	}
	for _, c := range append(oneOfEach(), impl.Command{}, command("1 find *none"), impl.Command{Kind: impl.CoInsert, Coll: "9"}) {
		if x, r, code := impl.Do(s, c); !isZeroStore(x) || !isZeroReply(r) || code != impl.ErrBad {
			t.Errorf("Do of %d, %s: %s, %s, %d", c.Kind, what, shownStore(x), shownReply(r), code)
		}
	}
	if list, code := impl.OpenSessions(s); len(list) != 0 || code != impl.ErrBad {
		t.Errorf("OpenSessions, %s: %v, %d", what, list, code)
	}
	for _, name := range []string{"docs", "none", "", strings.Repeat("n", impl.MaxText)} {
		if docs, code := impl.DocsNow(s, name); len(docs) != 0 || code != impl.ErrBad {
			t.Errorf("DocsNow of %.20q, %s: %v, %d", name, what, docs, code)
		}
	}
	if n, code := impl.OldestSnap(s); n != 0 || code != impl.ErrBad {
		t.Errorf("OldestSnap, %s: %d, %d", what, n, code)
	}
	docsAreSame(t, what, s, s, false, impl.ErrBad)
	docsAreSame(t, what, s, fresh(), false, impl.ErrBad)
	wrongWorld(t, what, worldOf(s))
	wrongAudit(t, what, s)
}

// rightStore holds the calls to it that a store is right.
func rightStore(t *testing.T, what string, s impl.Store) {
	t.Helper()
	if !impl.StoreOK(s) {
		t.Errorf("StoreOK, %s: it is not right", what)
	}
	for _, c := range oneOfEach() {
		if x, _, code := impl.Do(s, c); !impl.StoreOK(x) || code != impl.OK {
			t.Errorf("Do of %d, %s: %s, %d", c.Kind, what, shownStore(x), code)
		}
	}
	sessions, oldest := []int{}, s.Clock
	for _, x := range s.Txns {
		sessions, oldest = append(sessions, x.Session), min(oldest, x.Snap)
	}
	if list, code := impl.OpenSessions(s); !slices.Equal(list, sessions) || code != impl.OK {
		t.Errorf("OpenSessions, %s: %v, %d, not %v", what, list, code, sessions)
	}
	if n, code := impl.OldestSnap(s); n != oldest || code != impl.OK {
		t.Errorf("OldestSnap, %s: %d, %d, not %d", what, n, code, oldest)
	}
	for _, c := range s.Colls {
		want, _ := impl.SeenAt(c, s.Clock)
		if docs, code := impl.DocsNow(s, c.Name); !slices.Equal(docs, want) || code != impl.OK {
			t.Errorf("DocsNow of %s, %s: %v, %d, not %v", c.Name, what, docs, code, want)
		}
	}
	docsAreSame(t, what, s, s, true, impl.OK)
	rightWorld(t, what, worldOf(s))
	rightAudit(t, what, s)
}

func newStoreIs(t *testing.T, names []string, code int) {
	t.Helper()
	var want impl.Store
	if code == impl.OK {
		for _, name := range names {
			want.Colls = append(want.Colls, impl.Coll{Name: name})
		}
	}
	s, c := impl.NewStore(names)
	if !sameStore(s, want) || c != code {
		t.Errorf("NewStore(%.80q) = %s, %d, not %d", names, shownStore(s), c, code)
	}
	if code == impl.OK {
		rightStore(t, fmt.Sprint("of ", names), s)
	}
}

func TestP12Constants(t *testing.T) {
	kinds := []int{impl.CoBegin, impl.CoCommit, impl.CoAbort, impl.CoInsert, impl.CoFind, impl.CoUpdate, impl.CoDelete, impl.CoCount, impl.CoIndex, impl.CoDrop}
	for i, kind := range kinds {
		if kind != i+1 {
			t.Errorf("the Kind at %d is %d", i, kind)
		}
	}
}

func TestP12NewStore(t *testing.T) {
	for _, text := range []string{"a", "_", "docs", "a b", "docs more", "A a", "Z _ a", "a aa ab", "a b c", "a a9 aa", "docs docs_ more"} {
		newStoreIs(t, strings.Fields(text), impl.OK)
	}
	for _, name := range rightNames() {
		newStoreIs(t, []string{name}, impl.OK)
	}
	for _, names := range [][]string{nil, {}, {"a", "b", "c", "d"}, {"a", "b", "c", "d", "e"}, shortNames(100), shortNames(impl.MaxList)} {
		newStoreIs(t, names, impl.ErrMany)
	}
	// How many comes ahead of which.
	for _, names := range [][]string{{"9", "8", "7", "6"}, {"d", "c", "b", "a"}, {"a", "a", "a", "a"}, {"", "", "", ""}, make([]string, impl.MaxList)} {
		newStoreIs(t, names, impl.ErrMany)
	}
	for _, n := range []int{impl.MaxList + 1, 2 * impl.MaxList} {
		newStoreIs(t, shortNames(n), impl.ErrLong)
		newStoreIs(t, make([]string, n), impl.ErrLong)
	}
}

func TestP12NamesOfANewStore(t *testing.T) {
	// Within a list a text has no bound but its chapter's.
	for _, name := range append(wrongNames(), strings.Repeat("n", impl.MaxText+1), strings.Repeat("z", 2*impl.MaxText)) {
		for _, names := range [][]string{{name}, {name, "b"}, {"a", name}, {name, "b", "c"}, {"a", name, "c"}, {"a", "b", name}} {
			newStoreIs(t, names, impl.ErrName)
		}
	}
	for _, text := range []string{"a a", "b a", "a A", "aa a", "a b b", "a b a", "b a c", "a a b", "a c b", "c b a", "a a a", "more docs", "docs docs"} {
		newStoreIs(t, strings.Fields(text), impl.ErrOrder)
	}
	// In turn: name by name, each with both its faults.
	for _, row := range []struct {
		text string
		code int
	}{
		{"9 a a", impl.ErrName}, {"b a 9", impl.ErrOrder}, {"b 9 a", impl.ErrName}, {"a a 9", impl.ErrOrder}, {"b a.b a", impl.ErrName}, {"b 0", impl.ErrName}, {"9 8 7", impl.ErrName}, {"a 9 a", impl.ErrName}, {"a b 9", impl.ErrName}, {"c b thirteenchars", impl.ErrOrder},
		{"c thirteenchars b", impl.ErrName}, {"c aaaaaaaaaaaaa b", impl.ErrName},
	} {
		newStoreIs(t, strings.Fields(row.text), row.code)
	}
}

func TestP12RightStores(t *testing.T) {
	docs := coll("1 2=1 6=2|5 3=3 4-", def("one", "k"))
	for _, s := range []impl.Store{
		storeOf(0, coll("")),
		storeOf(0, named("a", ""), named("b", "")),
		storeOf(0, named("a", ""), named("b", ""), named("c", "")),
		storeOf(6, docs), storeOf(7, docs), storeOf(impl.MaxClock, docs),
		storeOf(9, named("a", "19 9-"), docs, named("more", "0 1=1")),
		withTxns(storeOf(6, docs), "0 0"), withTxns(storeOf(6, docs), "3 6"), withTxns(storeOf(6, docs), "2 3 ?1 >none.2 1=7 19-"),
		withTxns(storeOf(6, docs), "0 6", "1 5", "2 4", "3 0"), withTxns(storeOf(6, docs), "1 6", "3 6"),
		withTxns(storeOf(6, docs, named("more", "")), "0 2 docs.1- more.1=3", "2 2 docs.1- more.1=3"),
		withDone(storeOf(6, docs), "0 1|1 2 ?1 in|1 3 =1 out|0 6 ?none.1 =other.7"),
		withDone(withTxns(storeOf(9, docs), "0 3 1=7", "2 9"), "2 9 ?1 =5"),
		{Clock: 3, Colls: []impl.Coll{coll("")}, Txns: []impl.Txn{}, Done: []impl.Done{}},
	} {
		rightStore(t, shownStore(s), s)
	}
	full := allChains(impl.MaxVersions)
	s := withDone(storeOf(100, full), "")
	s.Done = manyDones(impl.MaxDone)
	for session := range impl.MaxSessions {
		x := withReads(impl.Txn{Session: session, Snap: 50}, impl.MaxReads)
		for id := range impl.TopId + 1 {
			x.Writes = append(x.Writes, gone(id))
		}
		s.Txns = append(s.Txns, x)
	}
	rightStore(t, "all that there may be", s)
}

func TestP12StoresOfWrongCollections(t *testing.T) {
	a, b, c, d := named("a", ""), named("b", "1 1=1"), coll("1 2=1"), named("more", "")
	for what, colls := range map[string][]impl.Coll{
		"none": nil, "an empty list": {}, "four": {a, b, c, d}, "four alike": {a, a, a, a}, "MaxList": slices.Repeat([]impl.Coll{a}, impl.MaxList), "beyond MaxList": slices.Repeat([]impl.Coll{a}, impl.MaxList+1),
		"falling": {b, a}, "falling behind": {a, d, c}, "falling ahead": {b, a, d}, "a name twice": {a, a}, "a name twice behind": {a, d, d}, "a name twice, other chains": {c, coll("")}, "a zero one": {{}}, "three falling": {d, c, a},
	} {
		wrongStore(t, what, storeOf(9, colls...))
		wrongStore(t, what, withTxns(storeOf(9, colls...), "1 3 ?1"))
	}
	for what, x := range wrongColls() {
		wrongStore(t, what, storeOf(impl.MaxClock, x))
		if x.Name == "docs" {
			wrongStore(t, what+", first", storeOf(impl.MaxClock, x, d))
			wrongStore(t, what+", between", storeOf(impl.MaxClock, a, x, d))
			wrongStore(t, what+", last", storeOf(impl.MaxClock, a, b, x))
		}
	}
	wrongStore(t, "a zero one", impl.Store{})
}

func TestP12StoresOfWrongTransactions(t *testing.T) {
	s := storeOf(9, named("a", ""), coll("1 2=1|5 3=1"), named("more", ""))
	rightStore(t, "the one to spoil", withTxns(s, "0 5 a.1=1 1=2 more.3-", "1 9"))
	for _, texts := range [][]string{
		{"0 5", "0 5"}, {"0 5", "0 6"}, {"1 5", "0 5"}, {"0 5", "2 5", "1 5"}, {"0 5", "1 5", "1 5"}, {"1 5", "0 5", "2 5"}, {"3 5", "3 5"}, {"0 5", "1 5", "2 5", "3 5", "3 5"}, {"0 5", "1 5", "2 5", "3 5", "0 5"},
		{"-1 5"}, {"4 5"}, {"0 5", "4 5"}, {"0 5", "1 5", "2 5", "3 5", "4 5"}, {"-1 5", "0 5"}, {"0 -1"}, {"0 5", "1 -1"},
		{"0 5 2=1 1=1"}, {"0 5 1=1 1-"}, {"0 5 more.1=1 docs.1=1"}, {"0 5 20-"}, {"0 5", "2 5 -1-"},
		// Of collections that the store does not have.
		{"0 5 b.1=1"}, {"0 5 A.1=1"}, {"0 5 aa.1-"}, {"0 5 doc.1-"}, {"0 5 docs_.1-"}, {"0 5 a.1=1 b.1=1 docs.1=1"}, {"0 5 a.1=1 docs.1=1 zz.1=1"}, {"0 5", "1 5 none.1=1"}, {"0 5 none.1=1", "1 5"},
	} {
		wrongStore(t, fmt.Sprint("the transactions ", texts), withTxns(s, texts...))
	}
	for what, x := range map[string]impl.Txn{
		"a read more": withReads(txn("1 5"), impl.MaxReads+1), "a zero read": {Session: 1, Reads: make([]impl.Read, 1)}, "a zero write": {Session: 1, Writes: make([]impl.Write, 1)}, "no document": {Session: 1, Writes: []impl.Write{{Coll: "docs", Id: 1}}},
		"another's document": {Session: 1, Writes: []impl.Write{{Coll: "docs", Id: 1, Doc: thing(2, 1)}}}, "a read of no name": withRead(txn("1 5"), "9", everything()),
	} {
		for _, list := range [][]impl.Txn{{x}, {txn("0 5"), x}, {x, txn("2 5")}} {
			s.Txns = list
			wrongStore(t, what, s)
		}
	}
	s.Txns = make([]impl.Txn, impl.MaxList+1)
	wrongStore(t, "beyond MaxList", s)
}

func TestP12StoresOfWrongDones(t *testing.T) {
	s := storeOf(100, coll("1 2=1"))
	rightStore(t, "the one to spoil", withDone(s, "0 3 ?1 =2 in|0 5|4 100 out"))
	for _, text := range []string{"0 3|0 3", "0 3|0 2", "0 5|1 4|0 6", "0 3|0 5|0 5", "3 3", "4 3", "-1 3", "0 3|-1 4", "0 0", "0 3 in out", "0 3|1 4 in out", "0 3 in out|1 4", "0 3 =1 =1", "0 3 +20", "0 3|1 4 =1 -1"} {
		wrongStore(t, text, withDone(s, text))
		wrongStore(t, text, withDone(withTxns(s, "1 3", "2 100"), text))
	}
	for what, d := range map[string]impl.Done{
		"a read more": {At: 3, Reads: slices.Repeat([]impl.Read{readOf("?1")}, impl.MaxReads+1)}, "a change more": {At: 3, Changes: manyChanges(61)}, "a zero read": {At: 3, Reads: make([]impl.Read, 1)}, "a zero change": {At: 3, Changes: make([]impl.Change, 1)}, "a zero one": {},
	} {
		for _, list := range [][]impl.Done{{d}, {done("0 1"), d}, {d, done("0 9")}} {
			s.Done = list
			wrongStore(t, what, s)
		}
	}
	for _, n := range []int{impl.MaxDone + 1, 40, 100} {
		s.Done = manyDones(n)
		wrongStore(t, fmt.Sprint(n, " of them"), s)
	}
}

// Nothing of a store is behind its Clock.
func TestP12StoresBehindTheClock(t *testing.T) {
	for at, s := range map[int][]impl.Store{
		6: {storeOf(0, coll("1 2=1 6=2|5 3=1")), storeOf(0, coll("1 2=1|5 3=1 6-")), storeOf(0, named("a", "0 6-"), coll("1 1=1")), storeOf(0, named("a", "1 1=1"), coll(""), named("more", "19 2- 4=1 6-"))},
		1: {storeOf(0, coll("1 1=1")), storeOf(0, coll("1 1-"))},
		5: {
			withTxns(storeOf(0, coll("")), "0 5"), withTxns(storeOf(0, coll("1 2=1")), "0 3", "1 5", "2 0"), withTxns(storeOf(0, coll("")), "3 5 ?1 1=1"), withTxns(storeOf(0, coll("")), "0 5", "3 1"),
			withDone(storeOf(0, coll("")), "0 5"), withDone(storeOf(0, coll("1 2=1")), "0 1|2 3|3 5 ?1 =1"), withDone(withTxns(storeOf(0, coll("1 2=1")), "0 3"), "4 5"),
		},
		impl.MaxClock: {storeOf(0, coll("1 2=1 10000-")), withTxns(storeOf(0, coll("")), "0 10000"), withDone(storeOf(0, coll("")), "0 10000")},
	} {
		for _, x := range s {
			for _, clock := range []int{0, 1, at - 2, at - 1, at, at + 1, 9999, 10000, 10001, -1, math.MaxInt, math.MinInt} {
				x.Clock = clock
				if at <= clock && clock <= impl.MaxClock {
					rightStore(t, shownStore(x), x)
				} else {
					wrongStore(t, shownStore(x), x)
				}
			}
		}
	}
	for _, clock := range []int{0, 1, 2, 9999, 10000} {
		rightStore(t, fmt.Sprint("the Clock ", clock), storeOf(clock, coll("")))
	}
	for _, clock := range []int{-1, -2, 10001, 10002, 1 << 32, 1<<32 + 5, math.MinInt, math.MaxInt} {
		wrongStore(t, fmt.Sprint("the Clock ", clock), storeOf(clock, coll("")))
		wrongStore(t, fmt.Sprint("the Clock ", clock), storeOf(clock, coll("1 2=1|5 3-")))
	}
}

// storeRight is StoreOK in other words.
func storeRight(s impl.Store) bool {
	late := func(at int) bool { return at > s.Clock }
	names := map[string]int{}
	for i, c := range s.Colls {
		names[c.Name]++
		if !collRight(c) || i > 0 && s.Colls[i-1].Name >= c.Name {
			return false
		}
		for _, x := range c.Chains {
			if slices.ContainsFunc(x.Versions, func(v impl.Version) bool { return late(v.At) }) {
				return false
			}
		}
	}
	for i, x := range s.Txns {
		if !impl.TxnOK(x) || i > 0 && s.Txns[i-1].Session >= x.Session || late(x.Snap) {
			return false
		}
		if slices.ContainsFunc(x.Writes, func(w impl.Write) bool { return names[w.Coll] == 0 }) {
			return false
		}
	}
	for i, d := range s.Done {
		if !doneRight(d) || d.In && d.Out || i > 0 && s.Done[i-1].At >= d.At || late(d.At) {
			return false
		}
	}
	return 1 <= len(s.Colls) && len(s.Colls) <= 3 && len(s.Done) <= 30 && 0 <= s.Clock && s.Clock <= 10000
}

// junkStore is a store that is right as often as not.
func junkStore(r *rand.Rand) impl.Store {
	s := impl.Store{Clock: pick(r, []int{0, 10, 20, 50, 50, 50, 50, 9999, 10000, 10001, -1})}
	for _, name := range []string{"a", "docs", "more"} {
		if r.Intn(2) == 0 {
			c := junkColl(r)
			for i := 0; i < 6 && !collRight(c); i++ {
				c = junkColl(r)
			}
			if r.Intn(12) > 0 {
				c.Name = name
			}
			s.Colls = append(s.Colls, c)
		}
	}
	session := r.Intn(2)
	for range r.Intn(4) {
		x := txn(fmt.Sprint(session, " ", r.Intn(12), " ?1"))
		for _, name := range []string{"a", "docs", "more"} {
			if r.Intn(4) == 0 {
				x.Writes = append(x.Writes, writeOf(fmt.Sprint(name, ".", r.Intn(20), "-")))
			}
		}
		s.Txns = append(s.Txns, x)
		session += pick(r, []int{0, 1, 1, 1, 1, 1, 2})
	}
	run := &certifyRun{r: r, ids: 20, reach: 9}
	at := 0
	for range r.Intn(4) {
		d := run.next().done()
		at += pick(r, []int{0, 1, 1, 2, 3, 5})
		d.At, d.Snap = at, max(0, at-1-r.Intn(3))
		d.Out = d.Out && !d.In
		if r.Intn(12) == 0 {
			spoilDone(r, &d)
		}
		s.Done = append(s.Done, d)
	}
	return s
}

func TestP12ChangedStores(t *testing.T) {
	r := rand.New(rand.NewSource(1201))
	count := map[bool]int{}
	for range 3000 {
		s := junkStore(r)
		right := storeRight(s)
		count[right]++
		if right {
			rightStore(t, shownStore(s), s)
		} else {
			wrongStore(t, shownStore(s), s)
		}
	}
	if count[true] < 400 || count[false] < 400 {
		t.Errorf("right and not: %v", count)
	}
}
