package tests

import (
	"cmp"
	"fmt"
	"maps"
	"math/rand"
	"slices"
	"testing"

	"loop.example/g00380/impl"
)

// A place is where a document is, or was.
type place struct {
	coll string
	id   int
}

// An event is a row of a plain list of what was committed when; the document is zero of what went.
type event struct {
	place
	at  int
	doc impl.Value
}

// A txnRun is a long one of calls in one transaction after the other. All that was ever committed
// stays in its list; own is what the transaction wrote, and reads what it asked.
type txnRun struct {
	r      *rand.Rand
	docs   []node
	list   []event
	clock  int
	snap   int
	own    map[place]impl.Value
	reads  []impl.Read
	counts map[string]int
}

var runNames = []string{"a", "docs", "more"}

// at is what was there at a time.
func (run *txnRun) at(p place, time int) impl.Value {
	doc := impl.Value{}
	for _, e := range run.list {
		if e.place == p && e.at <= time {
			doc = e.doc
		}
	}
	return doc
}

// view is what the transaction should see of a collection.
func (run *txnRun) view(name string) []impl.Value {
	var list []impl.Value
	for id := range impl.TopId + 1 {
		p := place{name, id}
		doc, there := run.own[p]
		if !there {
			doc = run.at(p, run.snap)
		}
		if doc != (impl.Value{}) {
			list = append(list, doc)
		}
	}
	return list
}

func (run *txnRun) coll(name string) impl.Coll {
	c := impl.Coll{Name: name, Defs: []impl.Def{def("one", "a")}}
	for id := range impl.TopId + 1 {
		x := impl.Chain{Id: id}
		for _, e := range run.list {
			if e.place == (place{name, id}) {
				x.Versions = append(x.Versions, impl.Version{At: e.at, Gone: e.doc == impl.Value{}, Doc: e.doc})
			}
		}
		if len(x.Versions) > 0 {
			c.Chains = append(c.Chains, x)
		}
	}
	return c
}

func (run *txnRun) colls() []impl.Coll {
	var list []impl.Coll
	for _, name := range runNames {
		list = append(list, run.coll(name))
	}
	return list
}

func (run *txnRun) txn() impl.Txn {
	x := impl.Txn{Session: run.snap % 4, Snap: run.snap, Reads: run.reads}
	places := slices.SortedFunc(maps.Keys(run.own), func(p, q place) int { return cmp.Or(cmp.Compare(p.coll, q.coll), p.id-q.id) })
	for _, p := range places {
		doc := run.own[p]
		x.Writes = append(x.Writes, impl.Write{Coll: p.coll, Id: p.id, Gone: doc == impl.Value{}, Doc: doc})
	}
	return x
}

// note says whether there was room.
func (run *txnRun) note(name string, f impl.Filter) bool {
	if len(run.reads) == 20 {
		return false
	}
	run.reads = append(slices.Clone(run.reads), impl.Read{Coll: name, Filter: f})
	return true
}

func (run *txnRun) letIn(t *testing.T, name string, f impl.Filter) []impl.Value {
	return slices.DeleteFunc(run.view(name), func(doc impl.Value) bool { return !letsIn(t, f, doc) })
}

func idOf(doc impl.Value) int {
	id, code := impl.IdOf(doc)
	if code != impl.OK {
		return -1
	}
	return id
}

func (run *txnRun) find(name string, q impl.Query) impl.Reply {
	if !run.note(name, q.Filter) {
		return impl.Reply{Code: impl.ErrFull}
	}
	docs, _ := impl.FindDocs(q, run.view(name))
	return impl.Reply{Docs: docs, N: len(docs)}
}

func (run *txnRun) insert(name string, doc impl.Value) impl.Reply {
	id := idOf(doc)
	if id < 0 || id > 19 {
		return impl.Reply{Code: impl.ErrRange}
	}
	if !run.note(name, idIs(id)) {
		return impl.Reply{Code: impl.ErrFull}
	}
	if slices.ContainsFunc(run.view(name), func(o impl.Value) bool { return idOf(o) == id }) {
		return impl.Reply{Code: impl.ErrTwice}
	}
	run.own[place{name, id}] = doc
	return impl.Reply{N: 1}
}

func (run *txnRun) update(t *testing.T, name string, f impl.Filter, list []impl.Update) impl.Reply {
	if !run.note(name, f) {
		return impl.Reply{Code: impl.ErrFull}
	}
	docs := run.letIn(t, name, f)
	for i, doc := range docs {
		after, code := impl.ApplyAll(doc, list)
		if code != impl.OK {
			return impl.Reply{Code: code}
		}
		docs[i] = after
	}
	for _, doc := range docs {
		run.own[place{name, idOf(doc)}] = doc
	}
	return impl.Reply{N: len(docs)}
}

func (run *txnRun) remove(t *testing.T, name string, f impl.Filter) impl.Reply {
	if !run.note(name, f) {
		return impl.Reply{Code: impl.ErrFull}
	}
	docs := run.letIn(t, name, f)
	for _, doc := range docs {
		run.own[place{name, idOf(doc)}] = impl.Value{}
	}
	return impl.Reply{N: len(docs)}
}

// runFilter lets in few, as often as not.
func runFilter(r *rand.Rand, docs []node) impl.Filter {
	if r.Intn(3) == 0 {
		id := r.Intn(20)
		return where(term(impl.TeGte, "id", intOf(id)), term(impl.TeLt, "id", intOf(id+1+r.Intn(4))))
	}
	return poolFilter(r, docs)
}

func runUpdates(r *rand.Rand) []impl.Update {
	var list []impl.Update
	for range 1 + r.Intn(3) {
		op := pick(r, []int{impl.UpSet, impl.UpSet, impl.UpUnset, impl.UpInc, impl.UpPush, impl.UpPull})
		list = append(list, update(op, pick(r, []string{"a", "b", "b.c", "no", "n", "n", "id.a"}), valueFor(op)))
	}
	return list
}

// step does one call, and the same to the plain lists.
func (run *txnRun) step(t *testing.T, x impl.Txn) called {
	t.Helper()
	name := pick(run.r, runNames)
	c := run.coll(name)
	var want impl.Reply
	var got called
	what := pick(run.r, []string{"find", "insert", "insert", "update", "update", "delete"})
	switch what {
	case "find":
		q := poolQuery(run.r, run.docs)
		got, want = callOf(impl.TxnFind(x, c, q)), run.find(name, q)
	case "insert":
		doc := pick(run.r, run.docs).value()
		if run.r.Intn(10) == 0 {
			doc = record("id", num(run.r.Intn(40)-10)).value()
		}
		got, want = callOf(impl.TxnInsert(x, c, doc)), run.insert(name, doc)
	case "update":
		f, list := runFilter(run.r, run.docs), runUpdates(run.r)
		got, want = callOf(impl.TxnUpdate(x, c, f, list)), run.update(t, name, f, list)
	case "delete":
		f := runFilter(run.r, run.docs)
		got, want = callOf(impl.TxnDelete(x, c, f)), run.remove(t, name, f)
	}
	run.counts[fmt.Sprint(what, " ", impl.CodeWord(want.Code), " ", want.N > 1)]++
	got.is(t, what, run.txn(), want)
	return got
}

func (run *txnRun) holds(t *testing.T, x impl.Txn) {
	t.Helper()
	for _, c := range run.colls() {
		if docs, code := impl.TxnDocs(x, c); !slices.Equal(docs, run.view(c.Name)) || code != impl.OK {
			t.Fatalf("TxnDocs(%s, %s): %v, %d, not %v", shownTxn(x), c.Name, docs, code, run.view(c.Name))
		}
	}
	var want []impl.Change
	for _, w := range x.Writes {
		now := run.at(place{w.Coll, w.Id}, run.clock)
		want = append(want, impl.Change{Write: w, Before: now, Was: now != impl.Value{}})
	}
	if list, code := impl.ChangesOf(x, run.colls()); !slices.Equal(list, want) || code != impl.OK {
		t.Fatalf("ChangesOf(%s): %v, %d, not %v", shownTxn(x), list, code, want)
	}
}

// others commits something at the next time, at places that have room.
func (run *txnRun) others() {
	run.clock++
	for range run.r.Intn(3) {
		doc := pick(run.r, run.docs)
		e := event{place: place{pick(run.r, runNames), doc.id()}, at: run.clock, doc: doc.value()}
		if run.r.Intn(3) == 0 {
			e.doc = impl.Value{}
		}
		old := slices.DeleteFunc(slices.Clone(run.list), func(o event) bool { return o.place != e.place })
		if len(old) < impl.MaxVersions && !slices.ContainsFunc(old, func(o event) bool { return o.at == e.at }) {
			run.list = append(run.list, e)
		}
	}
}

func TestP11LongRuns(t *testing.T) {
	counts := map[string]int{}
	for seed := range int64(60) {
		run := &txnRun{r: rand.New(rand.NewSource(seed)), counts: counts}
		run.docs = poolOf(run.r, 40)
		for range 12 {
			run.others()
		}
		for range 3 {
			// Its snapshot may be older than what was committed already.
			run.snap, run.own, run.reads = max(0, run.clock-run.r.Intn(14)), map[place]impl.Value{}, nil
			x := run.txn()
			for range 26 {
				if run.r.Intn(4) == 0 {
					run.others()
				}
				x = run.step(t, x).x
				run.holds(t, x)
				if t.Failed() {
					t.FailNow()
				}
			}
		}
	}
	for _, what := range []string{
		"find ok true", "find ok false", "find full false", "insert ok false", "insert twice false", "insert range false", "insert full false",
		"update ok true", "update ok false", "update type false", "update full false", "delete ok true", "delete ok false", "delete full false",
	} {
		if counts[what] < 40 {
			t.Errorf("%s: %d times only", what, counts[what])
		}
	}
}

// What a transaction did not ask does not change what it is answered, nor what it writes: if another
// document does, then a read that was noted hangs on that one's change.
func TestP11WhatIsAskedIsNoted(t *testing.T) {
	r := rand.New(rand.NewSource(1105))
	counts := map[string]int{}
	for range 4000 {
		pool := poolOf(r, 25)
		docs := slices.DeleteFunc(slices.Clone(pool), func(x node) bool { return r.Intn(3) == 0 })
		other := pick(r, pool)
		without := slices.DeleteFunc(slices.Clone(docs), func(x node) bool { return x.id() == other.id() })
		change := impl.Change{Write: impl.Write{Coll: "docs", Id: other.id(), Gone: true}}
		if i := slices.IndexFunc(docs, func(x node) bool { return x.id() == other.id() }); i >= 0 {
			change.Before, change.Was = docs[i].value(), true
		}
		changed := without
		if r.Intn(3) > 0 {
			y := other.without("a").with("a", pick(r, []node{num(1), num(2), word("a"), many(num(1), num(3))}))
			change.Write.Gone, change.Write.Doc = false, y.value()
			changed = append(slices.Clone(without), y)
			slices.SortFunc(changed, func(a, b node) int { return a.id() - b.id() })
		}
		x := txn("1 1 ?more.3 more.1=1")
		if id := r.Intn(20); r.Intn(2) == 0 {
			x.Writes = []impl.Write{pick(r, []impl.Write{put(id, 1), gone(id)})}
		}
		h := handed{q: poolQuery(r, pool), doc: pick(r, pool).value(), list: runUpdates(r)}
		h.c = collOf(docs...)
		first := callsOf(x, h)
		h.c = collOf(changed...)
		for name, after := range callsOf(x, h) {
			before := first[name]
			noted := before.x.Reads[len(x.Reads):]
			hits, _ := impl.Hits(noted, []impl.Change{change})
			same := sameReply(before.r, after.r) && slices.Equal(before.x.Writes, after.x.Writes)
			if len(noted) != 1 || !same && !hits {
				t.Fatalf("%s of %s: %s, then %s; %s was noted", name, shownTxn(x), shownReply(before.r), shownReply(after.r), shownTxn(before.x))
			}
			counts[fmt.Sprint(name, " ", same)]++
		}
	}
	for _, name := range []string{"TxnFind", "TxnInsert", "TxnUpdate", "TxnDelete"} {
		if counts[name+" true"] < 100 || counts[name+" false"] < 100 {
			t.Errorf("%s: %v", name, counts)
		}
	}
}
