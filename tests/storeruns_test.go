package tests

import (
	"fmt"
	"maps"
	"math/rand"
	"slices"
	"testing"

	"loop.example/g00380/impl"
)

// A storeRun is a long one of commands. All that was ever committed stays in its lists, with flags by
// all pairs that were at work at once; what a store should keep of that is asked of them anew each time.
type storeRun struct {
	r      *rand.Rand
	docs   []node
	list   []event
	clock  int
	open   map[int]*txnRun
	whole  []impl.Done
	defs   map[string][]impl.Def
	counts map[string]int
	// Sessions below this one have no transactions.
	alone int
}

func newStoreRun(r *rand.Rand, clock int, counts map[string]int) *storeRun {
	return &storeRun{r: r, docs: poolOf(r, 30), clock: clock, open: map[int]*txnRun{}, defs: map[string][]impl.Def{}, counts: counts}
}

func (run *storeRun) oldest() int {
	oldest := run.clock
	for _, x := range run.open {
		oldest = min(oldest, x.snap)
	}
	return oldest
}

// kept are the versions of a place that somebody who sees it at oldest, or later, has a use for.
func (run *storeRun) kept(p place, oldest int) []impl.Version {
	var list []impl.Version
	for _, e := range run.list {
		if e.place != p {
			continue
		}
		v := impl.Version{At: e.at, Gone: e.doc == impl.Value{}, Doc: e.doc}
		if e.at <= oldest {
			// It hides those ahead of it; gone it is as good as none.
			list = nil
		}
		if e.at > oldest || !v.Gone {
			list = append(list, v)
		}
	}
	return list
}

func (run *storeRun) keptDone(oldest int) []impl.Done {
	return slices.DeleteFunc(slices.Clone(run.whole), func(d impl.Done) bool { return d.At <= oldest })
}

// store is what all should be now.
func (run *storeRun) store() impl.Store {
	s := impl.Store{Clock: run.clock, Done: run.keptDone(run.oldest())}
	for _, name := range runNames {
		c := impl.Coll{Name: name, Defs: run.defs[name]}
		for id := range impl.TopId + 1 {
			if list := run.kept(place{name, id}, run.oldest()); len(list) > 0 {
				c.Chains = append(c.Chains, impl.Chain{Id: id, Versions: list})
			}
		}
		s.Colls = append(s.Colls, c)
	}
	for _, session := range slices.Sorted(maps.Keys(run.open)) {
		s.Txns = append(s.Txns, run.txn(session, run.open[session]))
	}
	return s
}

func (run *storeRun) txn(session int, x *txnRun) impl.Txn {
	y := x.txn()
	y.Session = session
	return y
}

func (run *storeRun) newTxn() *txnRun {
	return &txnRun{snap: run.clock, own: map[place]impl.Value{}, list: run.list}
}

func hangs(t *testing.T, reads []impl.Read, changes []impl.Change) bool {
	t.Helper()
	for _, r := range reads {
		for _, c := range changes {
			if r.Coll == c.Write.Coll && (c.Was && letsIn(t, r.Filter, c.Before) || !c.Write.Gone && letsIn(t, r.Filter, c.Write.Doc)) {
				return true
			}
		}
	}
	return false
}

// changes are what a transaction would do to what is there now.
func (run *storeRun) changes(x *txnRun) []impl.Change {
	var list []impl.Change
	for _, w := range x.txn().Writes {
		now := (&txnRun{list: run.list}).at(place{w.Coll, w.Id}, run.clock)
		list = append(list, impl.Change{Write: w, Before: now, Was: now != impl.Value{}})
	}
	return list
}

func clashes(a, b impl.Done) bool {
	return slices.ContainsFunc(a.Changes, func(c impl.Change) bool {
		return slices.ContainsFunc(b.Changes, func(d impl.Change) bool { return c.Write.Coll == d.Write.Coll && c.Write.Id == d.Write.Id })
	})
}

// commit says what comes of it; oldest is that of the time when it was last cleaned up.
func (run *storeRun) commit(t *testing.T, x *txnRun, oldest int) int {
	t.Helper()
	if run.clock == 10000 {
		return impl.ErrMany
	}
	d := impl.Done{Snap: x.snap, At: run.clock + 1, Reads: x.reads, Changes: run.changes(x)}
	whole := slices.Clone(run.whole)
	for _, o := range whole {
		if o.At > d.Snap && clashes(o, d) {
			return impl.ErrConflict
		}
	}
	for i := range whole {
		if o := &whole[i]; o.At > d.Snap {
			out, in := hangs(t, d.Reads, o.Changes), hangs(t, o.Reads, d.Changes)
			d.Out, o.In = d.Out || out, o.In || out
			d.In, o.Out = d.In || in, o.Out || in
		}
	}
	whole = append(whole, d)
	if slices.ContainsFunc(whole, func(o impl.Done) bool { return o.In && o.Out }) {
		return impl.ErrPivot
	}
	if len(run.keptDone(oldest)) == 30 {
		return impl.ErrFull
	}
	for _, c := range d.Changes {
		if len(run.kept(place{c.Write.Coll, c.Write.Id}, oldest)) == 12 {
			return impl.ErrFull
		}
	}
	run.whole, run.clock = whole, d.At
	for _, c := range d.Changes {
		run.list = append(run.list, event{place: place{c.Write.Coll, c.Write.Id}, at: d.At, doc: c.Write.Doc})
	}
	return impl.OK
}

// ask does a command of documents in a transaction.
func (run *storeRun) ask(t *testing.T, x *txnRun, c impl.Command) impl.Reply {
	t.Helper()
	x.list = run.list
	switch c.Kind {
	case impl.CoInsert:
		return x.insert(c.Coll, c.Doc)
	case impl.CoUpdate:
		return x.update(t, c.Coll, c.Query.Filter, c.Updates)
	case impl.CoDelete:
		return x.remove(t, c.Coll, c.Query.Filter)
	}
	r := x.find(c.Coll, c.Query)
	if c.Kind == impl.CoCount {
		r.Docs = nil
	}
	return r
}

func (run *storeRun) index(c impl.Command) int {
	defs := run.defs[c.Coll]
	at := slices.IndexFunc(defs, func(d impl.Def) bool { return d.Name == c.Def.Name })
	switch {
	case len(run.open) > 0:
		return impl.ErrBusy
	case c.Kind == impl.CoDrop && at < 0:
		return impl.ErrNone
	case c.Kind == impl.CoDrop:
		run.defs[c.Coll] = slices.Concat(defs[:at], defs[at+1:])
	case at >= 0:
		return impl.ErrTwice
	case len(defs) == 3:
		return impl.ErrFull
	default:
		run.defs[c.Coll] = slices.Concat(defs, []impl.Def{c.Def})
	}
	return impl.OK
}

// do is what a command comes to.
func (run *storeRun) do(t *testing.T, c impl.Command) impl.Reply {
	t.Helper()
	x, isOpen := run.open[c.Session]
	switch c.Kind {
	case impl.CoBegin:
		if isOpen {
			return impl.Reply{Code: impl.ErrState}
		}
		run.open[c.Session] = run.newTxn()
		return impl.Reply{}
	case impl.CoCommit, impl.CoAbort:
		if !isOpen {
			return impl.Reply{Code: impl.ErrState}
		}
		oldest := run.oldest()
		delete(run.open, c.Session)
		if c.Kind == impl.CoAbort {
			return impl.Reply{}
		}
		return impl.Reply{Code: run.commit(t, x, oldest)}
	}
	if !slices.Contains(runNames, c.Coll) {
		return impl.Reply{Code: impl.ErrName}
	}
	if c.Kind >= impl.CoIndex {
		return impl.Reply{Code: run.index(c)}
	}
	if isOpen {
		return run.ask(t, x, c)
	}
	x = run.newTxn()
	r := run.ask(t, x, c)
	if r.Code != impl.OK {
		return r
	}
	if code := run.commit(t, x, run.oldest()); code != impl.OK {
		return impl.Reply{Code: code}
	}
	return r
}

// next is a command; ends are how transactions begin and end, and how often each.
func (run *storeRun) next(ends ...int) impl.Command {
	c := poolCommand(run.r, run.docs)
	c.Coll = pick(run.r, runNames)
	if run.r.Intn(25) == 0 {
		c.Coll = "none"
	}
	if len(ends) > 0 && c.Session >= run.alone && run.r.Intn(4) == 0 {
		c.Kind = pick(run.r, ends)
	} else if c.Kind <= impl.CoAbort {
		// So few documents that two have to do with one another.
		c = command(fmt.Sprint(c.Session, pick(run.r, []string{" inc ?", " inc ?", " find ?", " delete ?"}), pick(run.r, runNames), ".", run.r.Intn(4)))
		if c.Kind == impl.CoUpdate {
			c.Updates = []impl.Update{update(impl.UpSet, "n", intOf(run.r.Intn(9)))}
		}
	}
	if run.r.Intn(12) == 0 {
		c.Kind, c.Def = pick(run.r, []int{impl.CoIndex, impl.CoIndex, impl.CoDrop}), def(pick(run.r, []string{"one", "two", "three", "four"}), pick(run.r, []string{"a", "-b.c", "id"}))
	}
	return c
}

var kindWords = []string{"", "begin", "commit", "abort", "insert", "find", "update", "delete", "count", "index", "drop"}

func (run *storeRun) run(t *testing.T, steps int, ends ...int) {
	t.Helper()
	s := run.store()
	for range steps {
		c := run.next(ends...)
		_, isOpen := run.open[c.Session]
		want := run.do(t, c)
		what := fmt.Sprint(kindWords[c.Kind], " ", impl.CodeWord(want.Code))
		run.counts[what]++
		if c.Kind >= impl.CoInsert && c.Kind <= impl.CoCount && !isOpen {
			run.counts[what+" alone"]++
		}
		s = doIs(t, s, c, what, want)
		storeIs(t, what, s, run.store())
		run.holds(t, s)
		if t.Failed() {
			t.FailNow()
		}
	}
}

func (run *storeRun) holds(t *testing.T, s impl.Store) {
	t.Helper()
	asksAre(t, s, run.oldest(), slices.Sorted(maps.Keys(run.open))...)
	for _, name := range runNames {
		now := &txnRun{list: run.list, snap: run.clock}
		if docs := mustNow(t, s, name); !slices.Equal(docs, now.view(name)) {
			t.Errorf("DocsNow of %s: %v, not %v", name, docs, now.view(name))
		}
	}
	// Whatever came, nobody is a pivot, and with nothing open only documents are kept.
	rightAudit(t, "in a run", s)
	settledIs(t, "in a run", s, true)
	noPivotIs(t, "in a run", s, true)
}

func saw(t *testing.T, counts map[string]int, wanted map[string]int) {
	t.Helper()
	for what, n := range wanted {
		if counts[what] < n {
			t.Errorf("%s: %d times only", what, counts[what])
		}
	}
}

func TestP12LongRuns(t *testing.T) {
	counts := map[string]int{}
	for seed := range int64(50) {
		run := newStoreRun(rand.New(rand.NewSource(seed)), 0, counts)
		run.run(t, 160, impl.CoBegin, impl.CoBegin, impl.CoBegin, impl.CoCommit, impl.CoCommit, impl.CoAbort)
		// Here often nothing is open.
		run = newStoreRun(rand.New(rand.NewSource(seed)), 0, counts)
		run.alone = 2
		run.run(t, 160, impl.CoBegin, impl.CoCommit, impl.CoCommit, impl.CoAbort, impl.CoAbort)
	}
	saw(t, counts, map[string]int{
		"begin ok": 300, "begin state": 100, "commit ok": 150, "commit state": 50, "commit conflict": 40, "commit pivot": 20, "abort ok": 80, "abort state": 30,
		"insert ok": 300, "insert twice": 200, "insert name": 20, "find ok": 300, "find name": 20, "count ok": 100, "count name": 10, "update ok": 200, "update type": 30, "update name": 10, "delete ok": 150, "delete name": 10,
		"index ok": 20, "index busy": 100, "index twice": 5, "index name": 5, "drop ok": 3, "drop none": 5, "drop busy": 50,
		"insert ok alone": 100, "insert twice alone": 50, "find ok alone": 100, "update ok alone": 50, "delete ok alone": 30, "count ok alone": 30,
	})
}

// Few end here: an old snapshot keeps so much that there is no room.
func TestP12RunsToFullStores(t *testing.T) {
	counts := map[string]int{}
	for seed := range int64(30) {
		run := newStoreRun(rand.New(rand.NewSource(100+seed)), 0, counts)
		run.alone = 2
		run.run(t, 200, impl.CoBegin, impl.CoBegin, impl.CoBegin, impl.CoBegin, impl.CoBegin, impl.CoBegin, impl.CoCommit)
	}
	saw(t, counts, map[string]int{"insert full": 30, "find full": 30, "count full": 10, "update full": 30, "delete full": 10, "commit full": 3, "commit ok": 20, "insert full alone": 10, "find full alone": 10})
}

// Documents are changed again and again, by transactions of few reads, while an old snapshot is open.
func TestP12RunsToFullChains(t *testing.T) {
	counts := map[string]int{}
	for seed := range int64(20) {
		r := rand.New(rand.NewSource(200 + seed))
		run := newStoreRun(r, 0, counts)
		s := run.store()
		for i := range 60 {
			c := command(fmt.Sprint("0 inc ?", r.Intn(2)))
			c.Updates = []impl.Update{update(impl.UpSet, "n", intOf(i))}
			switch {
			case i < 2:
				c = command(fmt.Sprintf("0 insert %d=1", i))
			case i == 2:
				c = command("3 begin")
			case r.Intn(40) == 0:
				c = command(pick(r, []string{"3 abort", "3 commit", "3 begin"}))
			case r.Intn(4) == 0:
				c = command(pick(r, []string{"1 begin", "1 commit", "1 inc *", "1 delete ?1", "1 insert 1=4"}))
			}
			want := run.do(t, c)
			counts[fmt.Sprint(kindWords[c.Kind], " ", impl.CodeWord(want.Code), " ", len(run.keptDone(run.oldest())) < 30)]++
			s = doIs(t, s, c, fmt.Sprint(i), want)
			storeIs(t, fmt.Sprint(i), s, run.store())
			if t.Failed() {
				t.FailNow()
			}
		}
	}
	saw(t, counts, map[string]int{"update full true": 40, "update ok true": 200, "commit conflict true": 5})
}

func TestP12RunsToTheLastTime(t *testing.T) {
	counts := map[string]int{}
	for seed := range int64(8) {
		run := newStoreRun(rand.New(rand.NewSource(300+seed)), 9960, counts)
		run.run(t, 250, impl.CoBegin, impl.CoBegin, impl.CoCommit, impl.CoCommit, impl.CoAbort)
		if run.clock != impl.MaxClock {
			t.Errorf("a run ends at %d", run.clock)
		}
	}
	saw(t, counts, map[string]int{"commit many": 40, "insert many": 10, "find many": 20, "count many": 10, "update many": 5, "delete many": 5, "insert twice": 20, "abort ok": 20, "begin ok": 50})
}

// While it is open, a transaction that is aborted at last changes nothing for anybody; behind that all
// is as if it had never been.
func TestP12WhatIsAbortedLeavesNoTrace(t *testing.T) {
	compared, whole := 0, 0
runs:
	for seed := range int64(120) {
		r := rand.New(rand.NewSource(400 + seed))
		run := newStoreRun(r, 0, map[string]int{})
		with, without := run.store(), run.store()
		open := false
		for step := range 40 {
			if step == 39 && open {
				with, open = doIs(t, with, command("3 abort"), "abort", impl.Reply{}), false
			} else if r.Intn(3) == 0 {
				c := run.next()
				c.Session = 3
				if !open {
					c.Kind = impl.CoBegin
				} else if r.Intn(10) == 0 {
					c.Kind = impl.CoAbort
				}
				x, _, _ := impl.Do(with, c)
				with, open = x, c.Kind != impl.CoAbort
			}
			c := run.next(impl.CoBegin, impl.CoBegin, impl.CoCommit, impl.CoCommit, impl.CoAbort)
			c.Session = min(c.Session, 2)
			if c.Kind >= impl.CoIndex {
				continue
			}
			x, got, _ := impl.Do(with, c)
			y, want, _ := impl.Do(without, c)
			if got.Code == impl.ErrFull || want.Code == impl.ErrFull {
				// Only that may tell that somebody keeps old versions.
				continue runs
			}
			if !sameReply(got, want) || x.Clock != y.Clock {
				t.Fatalf("%d of %d: %s beside one that is aborted, %s without", c.Kind, c.Session, shownReply(got), shownReply(want))
			}
			for _, name := range runNames {
				if !slices.Equal(mustNow(t, x, name), mustNow(t, y, name)) {
					t.Fatalf("%s: %s, not %s", name, shownStore(x), shownStore(y))
				}
			}
			compared++
			with, without = x, y
			if !open {
				storeIs(t, "nothing is left of it", with, without)
				whole++
			}
		}
	}
	if compared < 1500 || whole < 300 {
		t.Errorf("%d commands, %d whole stores", compared, whole)
	}
}

// A transaction that nothing runs beside is committed, whatever it did, and what it saw is there then.
func TestP12OneByOne(t *testing.T) {
	counts := map[string]int{}
	for seed := range int64(80) {
		run := newStoreRun(rand.New(rand.NewSource(500+seed)), 0, counts)
		s := run.store()
		for range 8 {
			s = talk(t, s, "1 begin: ok 0")
			for range run.r.Intn(8) {
				c := run.next()
				c.Session = 1
				s, _, _ = impl.Do(s, c)
			}
			view := map[string][]impl.Value{}
			for _, c := range s.Colls {
				view[c.Name], _ = impl.TxnDocs(s.Txns[0], c)
			}
			s = talk(t, s, "1 commit: ok 0")
			for name, docs := range view {
				if !slices.Equal(mustNow(t, s, name), docs) {
					t.Fatalf("%s: not what it saw", name)
				}
				if len(docs) > 3 {
					counts["several"]++
				}
			}
		}
	}
	saw(t, counts, map[string]int{"several": 100})
}
