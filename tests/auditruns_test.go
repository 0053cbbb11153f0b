package tests

import (
	"fmt"
	"math/rand"
	"slices"
	"testing"

	"loop.example/g00380/impl"
)

// committedAlone does commands in a transaction that nothing runs beside, and holds its commit to a code.
func committedAlone(t *testing.T, what string, s impl.Store, session int, list []impl.Command, code int) impl.Store {
	t.Helper()
	s = doIs(t, s, impl.Command{Kind: impl.CoBegin, Session: session}, what+", begin", impl.Reply{})
	for _, c := range list {
		c.Session = session
		x, _, k := impl.Do(s, c)
		if k != impl.OK {
			t.Fatalf("%s: Do of %d: %d", what, c.Kind, k)
		}
		s = x
	}
	s = doIs(t, s, impl.Command{Kind: impl.CoCommit, Session: session}, what+", commit", impl.Reply{Code: code})
	rightAudit(t, what, s)
	settledIs(t, what, s, true)
	noPivotIs(t, what, s, true)
	return s
}

// manyAsks are of all Kinds that there are of documents, with codes and without; what one of them reads
// another one changes.
func manyAsks() []impl.Command {
	return commands("0 find *", "0 inc *", "0 count >1", "0 insert 1=1", "0 insert 1=2", "0 insert more.2=2", "0 find *more", "0 inc *more", "0 delete ?1", "0 find ?1", "0 insert 1=7", "0 inc *none", "0 insert 20=1", "0 delete *more", "0 find *more", "0 count *", "0 delete *", "0 insert 3=3")
}

func TestP15NothingBesideIsNeverRefused(t *testing.T) {
	old := withDone(chains(50, "1 2=1 6=2|5 3=3 4-|7 50=1", "3 1=1 9=4"), "0 3 ?1 =2|0 4 ?2 in|1 6 =1 out|0 50 ?1 ?2 ?7 =7")
	almost := chains(50, "1 2=1", "")
	almost.Done = manyDones(impl.MaxDone - 1)
	for what, s := range map[string]impl.Store{
		"new": fresh(), "things": chains(9, "1 1=1|2 2=2|3 9=3", "1 5=5"), "things that are Gone": chains(9, "1 1=1 2-|3 9-", "2 5-"), "old versions and Dones": old, "just ahead of MaxDone": almost, "just ahead of MaxClock": chains(impl.MaxClock-1, "1 1=1", ""),
		"a chain of eleven": chains(50, "1 1=1 2=2 3=3 4=4 5=5 6=6 7=7 8=8 9=9 10=10 11=11", ""), "an index": storeOf(9, coll("1 2=1", def("one", "k")), named("more", "")),
	} {
		for n := range len(manyAsks()) + 1 {
			for session := range impl.MaxSessions {
				committedAlone(t, fmt.Sprint(what, ", the first ", n), s, session, manyAsks()[:n], impl.OK)
			}
			committedAlone(t, fmt.Sprint(what, ", from ", n), s, 1, manyAsks()[n:], impl.OK)
		}
		// With as many reads as there may be.
		committedAlone(t, what+", full of reads", s, 2, append(slices.Repeat(commands("2 count *"), 30), manyAsks()...), impl.OK)
		if s.Clock < impl.MaxClock-1 {
			for range 12 {
				s = committedAlone(t, what+", one behind the other", s, 3, manyAsks(), impl.OK)
			}
		}
	}
}

// Where a bound is come to the document has a code, which is neither of the two that somebody else makes.
func TestP15NothingBesideAtTheBounds(t *testing.T) {
	full := chains(50, "1 2=1", "")
	full.Done = manyDones(impl.MaxDone)
	// It is cleaned up behind the refusal.
	s := committedAlone(t, "MaxDone", full, 1, manyAsks(), impl.ErrFull)
	committedAlone(t, "once more", s, 1, manyAsks(), impl.OK)
	committedAlone(t, "MaxClock", chains(impl.MaxClock, "1 2=1", ""), 1, manyAsks(), impl.ErrMany)
	twelve := chains(50, "1 1=1 2=2 3=3 4=4 5=5 6=6 7=7 8=8 9=9 10=10 11=11 12=12", "")
	s = committedAlone(t, "MaxVersions", twelve, 1, commands("1 inc *"), impl.ErrFull)
	committedAlone(t, "once more", s, 1, commands("1 inc *"), impl.OK)
	committedAlone(t, "MaxVersions of another one", twelve, 1, commands("1 find *", "1 insert 2=2"), impl.OK)
}

// Behind whatever came: those who are open are aborted first, or committed as they like.
func TestP15NothingBesideInRuns(t *testing.T) {
	counts := map[string]int{}
	for seed := range int64(60) {
		run := newStoreRun(rand.New(rand.NewSource(1540+seed)), 0, counts)
		s := fresh()
		for range 12 {
			for range run.r.Intn(30) {
				c := run.next(impl.CoBegin, impl.CoBegin, impl.CoCommit, impl.CoAbort)
				if run.r.Intn(3) > 0 {
					c = hotCommand(run.r)
				}
				s, _, _ = impl.Do(s, c)
			}
			for session := range impl.MaxSessions {
				end := impl.Command{Kind: pick(run.r, []int{impl.CoCommit, impl.CoAbort}), Session: session}
				x, r, _ := impl.Do(s, end)
				counts[fmt.Sprint("end ", impl.CodeWord(r.Code))]++
				s = x
			}
			if !isBare(s) {
				t.Fatalf("more than documents is kept: %s", shownStore(s))
			}
			var list []impl.Command
			for range run.r.Intn(25) {
				list = append(list, warmCommand(run))
			}
			s = committedAlone(t, fmt.Sprint("the seed ", seed), s, run.r.Intn(impl.MaxSessions), list, impl.OK)
			// Nor is a command alone refused by anybody.
			x, r, _ := impl.Do(s, warmCommand(run))
			if r.Code == impl.ErrConflict || r.Code == impl.ErrPivot {
				t.Errorf("alone: %s", shownReply(r))
			}
			s = x
		}
	}
	saw(t, counts, map[string]int{"end ok": 300, "end state": 300, "end conflict": 20, "end pivot": 5})
}

// changesNow are what the transaction of a session would do.
func changesNow(t *testing.T, s impl.Store, place int) []impl.Change {
	t.Helper()
	list, code := impl.ChangesOf(s.Txns[place], s.Colls)
	if code != impl.OK {
		t.Fatalf("ChangesOf: %d", code)
	}
	return list
}

// bothCommit has two that are the only ones open, at 0 and 1, commit: first the one at a place. If each
// reads what the other one changes, or both change a document, the second one is refused, else none is.
func bothCommit(t *testing.T, what string, s impl.Store, first int, counts map[string]int) {
	t.Helper()
	one, two := s.Txns[first], s.Txns[1-first]
	ones, twos := changesNow(t, s, first), changesNow(t, s, 1-first)
	each := hangs(t, one.Reads, twos) && hangs(t, two.Reads, ones)
	want := impl.OK
	switch {
	case clashes(impl.Done{Changes: ones}, impl.Done{Changes: twos}):
		want = impl.ErrConflict
	case each:
		want = impl.ErrPivot
	}
	s = doIs(t, s, impl.Command{Kind: impl.CoCommit, Session: one.Session}, what+", the first", impl.Reply{})
	rightAudit(t, what, s)
	s = doIs(t, s, impl.Command{Kind: impl.CoCommit, Session: two.Session}, what+", the second", impl.Reply{Code: want})
	rightAudit(t, what, s)
	if !isBare(s) {
		t.Errorf("%s: more than documents is kept: %s", what, shownStore(s))
	}
	counts[impl.CodeWord(want)]++
	if each && want == impl.ErrConflict {
		counts["conflict of each"]++
	}
}

func TestP15TwoThatReadWhatTheOtherOneChanges(t *testing.T) {
	reads := []string{"find ?1", "find ?2", "count *", "count >1", "find *more", "insert 1=9", "count ?7", "inc >9", "delete >9"}
	changes := []string{"inc ?1", "inc ?2", "delete ?2", "insert 7=7", "inc *more", "delete *", "inc >1"}
	begun := talk(t, chains(5, "1 1=1|2 2=2", "1 1=1"), "1 begin: ok 0", "3 begin: ok 0")
	asked := func(session int, s impl.Store, texts ...string) impl.Store {
		for _, text := range texts {
			s, _, _ = impl.Do(s, command(fmt.Sprint(session, " ", text)))
		}
		return s
	}
	counts := map[string]int{}
	for i, mine := range reads {
		for _, change := range changes {
			s := asked(1, begun, mine, change)
			for j, theirs := range reads {
				for _, other := range changes {
					what := fmt.Sprint(mine, ", ", change, " beside ", theirs, ", ", other)
					x := asked(3, s, theirs, other)
					if (i+j)%2 == 0 {
						x = asked(3, s, other, theirs)
					}
					bothCommit(t, what, x, (i+j)%2, counts)
				}
			}
		}
	}
	saw(t, counts, map[string]int{"ok": 300, "pivot": 300, "conflict": 500, "conflict of each": 300})
	// Either way round.
	for _, texts := range [][]string{{"1 find ?1: ok 1 1=1", "3 find ?2: ok 1 2=2", "1 inc ?2: ok 1", "3 inc ?1: ok 1"}, {"1 count *: ok 2", "3 count *: ok 2", "1 insert 7=7: ok 1", "3 insert 8=8: ok 1"}, {"1 find *: ok 2 1=1 2=2", "1 delete ?2: ok 1", "3 inc ?1: ok 1", "3 count >1: ok 2"}, {"1 delete ?1: ok 1", "1 inc >2: ok 0", "3 find *: ok 2 1=1 2=2", "3 inc ?2: ok 1"}} {
		s := talk(t, begun, texts...)
		bothCommit(t, fmt.Sprint(texts), s, 0, counts)
		bothCommit(t, fmt.Sprint(texts), s, 1, counts)
		talk(t, s, "1 commit: ok 0", "3 commit: pivot")
		talk(t, s, "3 commit: ok 0", "1 commit: pivot")
		// Whoever else is open and idle, or comes between, changes nothing of that.
		audited(t, s, "0 begin: ok 0", "1 commit: ok 0", "2 find ?19: ok 0", "3 commit: pivot", "0 commit: ok 0")
		audited(t, s, "2 begin: ok 0", "3 commit: ok 0", "2 abort: ok 0", "1 commit: pivot")
	}
}

// warmCommand is one of documents, of all shapes or, more often, of few.
func warmCommand(run *storeRun) impl.Command {
	for {
		c := hotCommand(run.r)
		if run.r.Intn(4) == 0 {
			c = run.next()
		}
		if c.Kind >= impl.CoInsert && c.Kind <= impl.CoCount {
			return c
		}
	}
}

func TestP15TwoOfRandomCommands(t *testing.T) {
	counts := map[string]int{}
	for seed := range int64(800) {
		run := newStoreRun(rand.New(rand.NewSource(15500+seed)), 0, counts)
		s := talk(t, chains(9, "1 1=1|2 3=2|5 9=1", "3 2=3"), "0 begin: ok 0", "2 begin: ok 0")
		for range 3 + run.r.Intn(5) {
			c := warmCommand(run)
			c.Session = pick(run.r, []int{0, 2})
			// What one changes of its own the other one reads only.
			if c.Kind != impl.CoFind && c.Kind != impl.CoCount && run.r.Intn(8) > 0 {
				own := map[int][]string{0: {"0 inc ?1", "0 delete ?1", "0 insert 7=7", "0 inc ?more.3"}, 2: {"2 inc ?2", "2 delete ?5", "2 insert 8=8", "2 insert more.1=1"}}
				c = command(pick(run.r, own[c.Session]))
			}
			s, _, _ = impl.Do(s, c)
		}
		bothCommit(t, fmt.Sprint("the seed ", seed), s, run.r.Intn(2), counts)
	}
	saw(t, counts, map[string]int{"ok": 300, "pivot": 15, "conflict": 25})
}

// A world's commands answer as those of its store do, and its Past has one more for each commit that
// was OK, and for nothing else.
func TestP15WorldsAndTheirStores(t *testing.T) {
	counts := map[string]int{}
	for seed := range int64(200) {
		r := rand.New(rand.NewSource(15600 + seed))
		w := impl.NewWorld()
		for _, c := range worldCommands(r) {
			_, isOpen := slices.BinarySearchFunc(w.Store.Txns, c.Session, func(x impl.Txn, session int) int { return x.Session - session })
			s, want, _ := impl.Do(w.Store, c)
			x, reply, code := impl.WorldDo(w, c)
			if code == impl.ErrMany {
				break
			}
			if !sameReply(reply, want) || !sameStore(x.Store, s) || code != impl.OK {
				t.Fatalf("WorldDo: %s, %d, not %s: %s", shownReply(reply), code, shownReply(want), shownWorld(x))
			}
			list := w.Past
			if reply.Code == impl.OK && (c.Kind == impl.CoCommit || !isOpen && c.Kind >= impl.CoInsert && c.Kind <= impl.CoCount) {
				list = x.Past[:min(len(w.Past)+1, len(x.Past))]
				counts[fmt.Sprint("past ", isOpen)]++
				if at := list[len(list)-1].Done.At; at != s.Clock || at != w.Store.Clock+1 {
					t.Errorf("the time %d of what was committed at %d", at, s.Clock)
				}
			} else if s.Clock != w.Store.Clock {
				t.Errorf("the Clock went on by %d: %s", c.Kind, shownReply(reply))
			}
			if len(x.Past) != len(list) || !slices.EqualFunc(x.Past[:len(w.Past)], w.Past, samePast) {
				t.Fatalf("%d pasts, behind %d: %s of %d", len(x.Past), len(w.Past), shownReply(reply), c.Kind)
			}
			counts[impl.CodeWord(reply.Code)]++
			w = x
			rightAudit(t, "a world's", w.Store)
			settledIs(t, "a world's", w.Store, true)
			noPivotIs(t, "a world's", w.Store, true)
		}
	}
	saw(t, counts, map[string]int{"past true": 100, "past false": 500, "ok": 1500, "conflict": 30, "pivot": 15, "state": 50, "twice": 100})
}
