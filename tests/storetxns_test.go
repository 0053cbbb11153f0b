package tests

import (
	"fmt"
	"slices"
	"testing"

	"loop.example/g00380/impl"
)

// lines are so many alike ones.
func lines(n int, line string) []string { return slices.Repeat([]string{line}, n) }

// dirty has an old version and one that was committed, which nobody has a use for any more.
func dirty() impl.Store {
	return withDone(storeOf(8, coll("1 2=1 6=2|5 3=3 4-"), named("more", "3 1=1")), "0 3 ?1|4 6 =1")
}

func TestP12Begin(t *testing.T) {
	for _, order := range [][]int{{0}, {3}, {0, 1, 2, 3}, {3, 2, 1, 0}, {2, 0, 3, 1}, {1, 3}} {
		s := storeOf(7, coll("1 2=1 6=2"), named("more", ""))
		var sessions []int
		for _, session := range order {
			s = talk(t, s, fmt.Sprint(session, " begin: ok 0"), fmt.Sprint(session, " begin: state"))
			sessions = append(sessions, session)
		}
		slices.Sort(sessions)
		want := storeOf(7, coll("1 2=1 6=2"), named("more", ""))
		for _, session := range sessions {
			want.Txns = append(want.Txns, impl.Txn{Session: session, Snap: 7})
		}
		storeIs(t, fmt.Sprint("begun by ", order), s, want)
	}
}

// A Snap is the Clock of its own beginning; nothing else is changed by that, nor cleaned up.
func TestP12BeginAtItsTime(t *testing.T) {
	s := talk(t, fresh(), "2 begin: ok 0", "0 insert 1=1: ok 1", "1 begin: ok 0", "0 inc *: ok 1", "0 find *: ok 1 1=2", "0 begin: ok 0")
	var snaps []int
	for _, x := range s.Txns {
		snaps = append(snaps, x.Snap)
	}
	if !slices.Equal(snaps, []int{3, 1, 0}) || s.Clock != 3 {
		t.Errorf("the Snaps %v, the Clock %d", snaps, s.Clock)
	}
	x := talk(t, dirty(), "3 begin: ok 0")
	storeIs(t, "begun", x, withTxns(dirty(), "3 8"))
	storeIs(t, "at MaxClock", talk(t, storeOf(impl.MaxClock, coll("")), "0 begin: ok 0"), withTxns(storeOf(impl.MaxClock, coll("")), "0 10000"))
}

// ErrState leaves all as it was: nothing is cleaned up either.
func TestP12NothingIsOpen(t *testing.T) {
	for _, s := range []impl.Store{fresh(), dirty(), withTxns(dirty(), "1 3 ?1 1=7"), withTxns(dirty(), "1 8", "3 8"), storeOf(impl.MaxClock, coll("1 2=1 3-"))} {
		for _, session := range []int{0, 2} {
			storeIs(t, "committed", talk(t, s, fmt.Sprint(session, " commit: state")), s)
			storeIs(t, "aborted", talk(t, s, fmt.Sprint(session, " abort: state")), s)
		}
	}
	for _, session := range []int{1, 3} {
		s := withTxns(dirty(), "1 3 ?1 1=7", "3 8")
		storeIs(t, "begun twice", talk(t, s, fmt.Sprint(session, " begin: state")), s)
	}
	talk(t, fresh(), "0 begin: ok 0", "0 commit: ok 0", "0 commit: state", "0 abort: state", "0 begin: ok 0", "0 abort: ok 0", "0 abort: state", "0 commit: state")
}

func TestP12ATransactionSeesItsSnap(t *testing.T) {
	s := talk(t, fresh(), "0 insert 1=1: ok 1", "0 insert 2=2: ok 1", "3 begin: ok 0", "3 find *: ok 2 1=1 2=2")
	s = talk(t, s, "0 inc *: ok 2", "3 find *: ok 2 1=1 2=2", "0 delete ?1: ok 1", "3 find *: ok 2 1=1 2=2", "0 insert 5=5: ok 1", "3 count *: ok 2", "3 find ?5: ok 0")
	s = talk(t, s, "1 begin: ok 0", "1 find *: ok 2 2=3 5=5", "1 inc *: ok 2", "1 commit: ok 0", "3 find *: ok 2 1=1 2=2", "2 find *: ok 2 2=4 5=6")
	// Its own writes lie over it, and nobody else's.
	s = talk(t, s, "3 insert 7=7: ok 1", "3 insert 1=9: twice", "3 insert 5=9: ok 1", "3 delete ?2: ok 1", "3 find *: ok 3 1=1 5=9 7=7", "2 find *: ok 2 2=4 5=6", "3 inc >5: ok 2", "3 find *: ok 3 1=1 5=10 7=8")
	nowIs(t, s, "docs", "2=4 5=6")
	s = talk(t, s, "3 abort: ok 0", "3 find *: ok 2 2=4 5=6")
	nowIs(t, s, "docs", "2=4 5=6")
}

func TestP12CommitInstalls(t *testing.T) {
	s := talk(t, fresh(), "0 insert 1=1: ok 1", "0 insert 3=3: ok 1", "0 insert more.3=4: ok 1")
	storeIs(t, "alone", s, storeOf(3, coll("1 1=1|3 2=3"), named("more", "3 3=4")))
	s = talk(t, s, "1 begin: ok 0", "1 inc ?1: ok 1", "1 delete ?3: ok 1", "1 insert 7=7: ok 1", "1 insert more.0=5: ok 1", "1 inc *more: ok 2", "1 find *more: ok 2 0=6 3=5")
	nowIs(t, s, "docs", "1=1 3=3")
	nowIs(t, s, "more", "3=4")
	if s.Clock != 3 {
		t.Errorf("the Clock %d", s.Clock)
	}
	s = talk(t, s, "1 commit: ok 0")
	storeIs(t, "committed", s, storeOf(4, coll("1 4=2|7 4=7"), named("more", "0 4=6|3 4=5")))
	// Without writes a time goes by all the same.
	s = talk(t, s, "2 begin: ok 0", "2 commit: ok 0")
	storeIs(t, "nothing", s, storeOf(5, coll("1 4=2|7 4=7"), named("more", "0 4=6|3 4=5")))
	s = talk(t, s, "2 begin: ok 0", "2 find *: ok 2 1=2 7=7", "2 inc >9: ok 0", "2 commit: ok 0")
	storeIs(t, "what was read", s, storeOf(6, coll("1 4=2|7 4=7"), named("more", "0 4=6|3 4=5")))
}

// All that somebody's older snapshot may need is there beside it, at its time, and so is what was
// committed.
func TestP12CommitBesideAnOlderOne(t *testing.T) {
	s := talk(t, fresh(), "0 insert 1=1: ok 1", "0 insert 3=3: ok 1", "3 begin: ok 0", "1 begin: ok 0", "1 inc ?1: ok 1", "1 delete ?3: ok 1", "1 insert 5=5: ok 1", "1 insert 9=9: ok 1", "1 delete ?9: ok 1", "1 commit: ok 0")
	want := withTxns(storeOf(3, coll("1 1=1 3=2|3 2=3 3-|5 3=5|9 3-"), named("more", "")), "3 2")
	d := impl.Done{Snap: 2, At: 3}
	for _, f := range []impl.Filter{idIs(1), idIs(3), idIs(5), idIs(9), idIs(9)} {
		d.Reads = append(d.Reads, impl.Read{Coll: "docs", Filter: f})
	}
	d.Changes = []impl.Change{{Write: put(1, 2), Before: thing(1, 1), Was: true}, {Write: gone(3), Before: thing(3, 3), Was: true}, {Write: put(5, 5)}, {Write: gone(9)}}
	want.Done = []impl.Done{d}
	storeIs(t, "committed", s, want)
	s = talk(t, s, "3 find *: ok 2 1=1 3=3", "2 find *: ok 2 1=2 5=5", "3 abort: ok 0")
	storeIs(t, "cleaned up", s, storeOf(4, coll("1 3=2|5 3=5"), named("more", "")))
}

func TestP12TheFirstToCommitWins(t *testing.T) {
	begun := talk(t, fresh(), "0 insert 1=1: ok 1", "0 insert 2=2: ok 1", "0 begin: ok 0", "1 begin: ok 0")
	for _, row := range []struct {
		first, second, again string
		docs                 string
	}{
		{"inc ?1", "inc ?1", "ok 1", "1=3 2=2"},
		{"inc ?1", "delete ?1", "ok 1", "2=2"},
		{"delete ?1", "inc ?1", "ok 0", "2=2"},
		{"delete ?1", "delete ?1", "ok 0", "2=2"},
		{"insert 5=5", "insert 5=6", "twice", "1=1 2=2 5=5"},
		{"inc *", "inc ?2", "ok 1", "1=2 2=4"},
		{"inc ?2", "inc *", "ok 2", "1=2 2=4"},
		{"delete *", "inc *", "ok 0", ""},
	} {
		for winner, loser := range map[int]int{0: 1, 1: 0} {
			say := func(session int, what, reply string) string { return fmt.Sprint(session, " ", what, ": ", reply) }
			n := map[string]string{"inc ?1": "ok 1", "delete ?1": "ok 1", "inc ?2": "ok 1", "inc *": "ok 2", "delete *": "ok 2", "insert 5=5": "ok 1", "insert 5=6": "ok 1"}
			// Who asked first does not matter.
			for _, s := range []impl.Store{
				talk(t, begun, say(winner, row.first, n[row.first]), say(loser, row.second, n[row.second])),
				talk(t, begun, say(loser, row.second, n[row.second]), say(winner, row.first, n[row.first])),
			} {
				s = talk(t, s, say(winner, "commit", "ok 0"))
				before, _ := impl.DocsNow(s, "docs")
				s = talk(t, s, say(loser, "commit", "conflict"))
				nowIs(t, s, "docs", seen(t, before))
				if len(s.Txns) != 0 || s.Clock != 3 {
					t.Errorf("%s and %s: %s", row.first, row.second, shownStore(s))
				}
				// The other one, tried again with nobody beside it, wins then.
				s = talk(t, s, say(loser, "begin", "ok 0"), say(loser, row.second, row.again), say(loser, "commit", "ok 0"))
				nowIs(t, s, "docs", row.docs)
			}
		}
	}
}

// Whoever is alone wins beside one that is open, too.
func TestP12AConflictWithOneAlone(t *testing.T) {
	s := talk(t, fresh(), "0 insert 1=1: ok 1", "1 begin: ok 0", "1 inc ?1: ok 1", "0 inc ?1: ok 1")
	nowIs(t, s, "docs", "1=2")
	s = talk(t, s, "1 commit: conflict")
	storeIs(t, "refused", s, storeOf(2, coll("1 2=2"), named("more", "")))
	// Others' documents, and others' collections, are no conflict.
	s = talk(t, s, "1 begin: ok 0", "1 inc ?1: ok 1", "0 insert 2=2: ok 1", "0 insert more.1=7: ok 1", "1 commit: ok 0")
	nowIs(t, s, "docs", "1=3 2=2")
	nowIs(t, s, "more", "1=7")
}

// Two of whom each reads what the other one changes: one is refused, and leaves nothing.
func TestP12Pivots(t *testing.T) {
	s := talk(t, fresh(), "0 insert 1=1: ok 1", "0 insert 2=2: ok 1", "0 begin: ok 0", "1 begin: ok 0", "0 find ?1: ok 1 1=1", "1 find ?2: ok 1 2=2", "0 inc ?2: ok 1", "1 inc ?1: ok 1")
	storeIs(t, "1 refused", talk(t, s, "0 commit: ok 0", "1 commit: pivot"), storeOf(3, coll("1 1=1|2 3=3"), named("more", "")))
	storeIs(t, "0 refused", talk(t, s, "1 commit: ok 0", "0 commit: pivot"), storeOf(3, coll("1 3=2|2 2=2"), named("more", "")))
	// One whose reads hang on a change, and on whose change a third one's reads hang; who comes last is refused.
	s = talk(t, fresh(), "0 insert 1=1: ok 1", "0 insert 2=2: ok 1", "0 insert 3=3: ok 1", "0 begin: ok 0", "1 begin: ok 0", "2 begin: ok 0",
		"0 find ?1: ok 1 1=1", "0 inc ?3: ok 1", "1 find ?2: ok 1 2=2", "1 inc ?1: ok 1", "2 inc ?2: ok 1")
	for _, order := range [][]int{{0, 1, 2}, {0, 2, 1}, {1, 0, 2}, {1, 2, 0}, {2, 0, 1}, {2, 1, 0}} {
		x := talk(t, s, fmt.Sprint(order[0], " commit: ok 0"), fmt.Sprint(order[1], " commit: ok 0"), fmt.Sprint(order[2], " commit: pivot"))
		if len(x.Txns) != 0 || len(x.Done) != 0 || x.Clock != 5 {
			t.Errorf("in the order %v: %s", order, shownStore(x))
		}
	}
	// What a filter would let in counts, not only what it found.
	s = talk(t, fresh(), "0 insert 1=1: ok 1", "0 begin: ok 0", "1 begin: ok 0", "0 find >5: ok 0", "1 find >5: ok 0", "0 insert 3=7: ok 1", "1 insert 4=8: ok 1", "1 commit: ok 0", "0 commit: pivot")
	nowIs(t, s, "docs", "1=1 4=8")
}

// A command alone may be what makes another one a pivot: it is refused.
func TestP12PivotsByOneAlone(t *testing.T) {
	s := talk(t, fresh(), "0 insert 1=1: ok 1", "0 insert 2=2: ok 1", "3 begin: ok 0", "0 begin: ok 0", "0 find ?1: ok 1 1=1", "0 inc ?2: ok 1", "1 inc ?1: ok 1", "0 commit: ok 0")
	if n := len(s.Done); n != 2 || !s.Done[1].Out || !s.Done[0].In {
		t.Fatalf("%s", shownStore(s))
	}
	// Session 3 reads what session 0 changed, and so it would be In, too.
	x := talk(t, s, "3 find ?2: ok 1 2=2", "3 commit: pivot")
	storeIs(t, "refused", x, storeOf(4, coll("1 3=2|2 4=3"), named("more", "")))
	talk(t, s, "3 find ?2: ok 1 2=2", "3 abort: ok 0")
	talk(t, s, "3 commit: ok 0")
}

func TestP12CommitAtMaxClock(t *testing.T) {
	begun := withTxns(storeOf(impl.MaxClock, coll("1 9=1 10000=2|2 3=1 4-")), "0 9998 ?1 1=7", "2 10000 ?1 2=7")
	begun.Done = dones("9997 9999 ?7|9998 10000 =1")
	// It goes, and what was kept for it goes with it.
	x := talk(t, begun, "0 commit: many")
	want := withTxns(storeOf(impl.MaxClock, coll("1 10000=2")), "2 10000 ?1 2=7")
	storeIs(t, "the older one", x, want)
	storeIs(t, "both", talk(t, x, "2 commit: many"), storeOf(impl.MaxClock, coll("1 10000=2")))
	y := talk(t, begun, "2 commit: many")
	kept := withTxns(storeOf(impl.MaxClock, coll("1 9=1 10000=2")), "0 9998 ?1 1=7")
	kept.Done = begun.Done
	storeIs(t, "the newer one", y, kept)
	for _, line := range []string{"1 insert 5=5: many", "1 find *: many", "1 count *: many", "1 inc *: many", "1 delete *: many", "1 insert 1=5: twice", "1 insert 20=5: range", "1 find *none: name"} {
		storeIs(t, line, talk(t, x, line), x)
	}
	// In a transaction that is open there is time for everything but its commit.
	talk(t, x, "2 find *: ok 2 1=2 2=7", "2 insert 3=3: ok 1", "2 abort: ok 0")
	talk(t, storeOf(impl.MaxClock, coll("1 5=1")), "0 index docs.one k: ok 0", "0 drop docs.one: ok 0", "0 begin: ok 0", "0 inc *: ok 1", "0 find *: ok 1 1=2", "0 commit: many", "0 begin: ok 0", "0 find *: ok 1 1=1")
	last := talk(t, storeOf(impl.MaxClock-1, coll("1 5=1")), "0 inc *: ok 1", "0 inc *: many", "0 begin: ok 0", "0 commit: many")
	storeIs(t, "the last time", last, storeOf(impl.MaxClock, coll("1 10000=2")))
}

// held has an old transaction open that keeps n versions of 1, and as many that were committed.
func held(t *testing.T, n int) impl.Store {
	t.Helper()
	s := talk(t, fresh(), "0 insert 1=0: ok 1", "0 insert 2=0: ok 1", "3 begin: ok 0")
	return talk(t, s, lines(n-1, "0 inc ?1: ok 1")...)
}

func TestP12NoRoomInAChain(t *testing.T) {
	s := held(t, impl.MaxVersions-1)
	s = talk(t, s, "1 begin: ok 0", "1 inc ?1: ok 1", "1 inc ?2: ok 1", "1 insert 0=5: ok 1", "1 insert more.1=5: ok 1", "0 inc ?1: ok 1", "0 inc ?1: full", "0 delete ?1: full", "0 find ?1: ok 1 1=11")
	nowIs(t, s, "docs", "1=11 2=0")
	// A conflict is told ahead of that.
	s = talk(t, s, "1 commit: conflict", "1 begin: ok 0", "1 insert 0=5: ok 1", "1 inc ?1: ok 1", "1 inc ?2: ok 1", "1 insert more.1=5: ok 1", "2 begin: ok 0")
	before := s
	s = talk(t, s, "1 commit: full")
	want := before
	want.Txns = []impl.Txn{before.Txns[1], before.Txns[2]}
	if before.Txns[0].Session != 1 {
		t.Fatalf("%s", shownStore(before))
	}
	// Nothing of it is left, not even of what had room; nor stands it among those that were committed.
	storeIs(t, "refused", s, want)
	nowIs(t, s, "docs", "1=11 2=0")
	nowIs(t, s, "more", "")
	s = talk(t, s, "0 inc ?2: ok 1", "0 inc ?1: full", "3 abort: ok 0", "0 inc ?1: ok 1", "0 inc ?1: ok 1", "2 find ?1: ok 1 1=11", "2 commit: ok 0")
	nowIs(t, s, "docs", "1=13 2=1")
	storeIs(t, "cleaned up", s, storeOf(s.Clock, coll(fmt.Sprint("1 ", s.Clock-1, "=13|2 ", s.Clock-3, "=1")), named("more", "")))
}

func TestP12NoRoomForOneMore(t *testing.T) {
	s := talk(t, fresh(), "0 insert 1=1: ok 1", "3 begin: ok 0", "2 begin: ok 0")
	s = talk(t, s, lines(impl.MaxDone, "0 find ?1: ok 1 1=1")...)
	if len(s.Done) != impl.MaxDone || s.Clock != 31 {
		t.Fatalf("%d of them, the Clock %d", len(s.Done), s.Clock)
	}
	before := s
	s = talk(t, s, "0 find ?1: full", "0 count *more: full", "0 insert 2=2: full", "0 inc *: full", "0 delete *: full", "0 insert 1=5: twice", "0 insert 20=1: range")
	storeIs(t, "refused alone", s, before)
	s = talk(t, s, "1 begin: ok 0", "1 insert 2=2: ok 1", "1 commit: full")
	storeIs(t, "refused", s, before)
	// One that changes what they read is a pivot or none: with In alone there is no room.
	s = talk(t, s, "2 inc ?1: ok 1", "2 commit: full", "3 find *: ok 1 1=1", "3 commit: full")
	storeIs(t, "cleaned up", s, storeOf(31, coll("1 1=1"), named("more", "")))
	talk(t, s, "0 inc *: ok 1")
}

// The first of several codes, in the order in which the chapter names them.
func TestP12OrderOfCodesOfACommit(t *testing.T) {
	full := impl.Chain{Id: 1}
	for at := range impl.MaxVersions {
		full.Versions = append(full.Versions, impl.Version{At: at + 1, Doc: thing(1, at)})
	}
	s := storeOf(100, impl.Coll{Name: "docs", Chains: []impl.Chain{full, chain("2 1=1"), chain("3 1=1")}})
	s.Txns = []impl.Txn{txn("0 0"), txn("1 20 1=7")}
	list := manyDones(impl.MaxDone)
	for _, row := range []struct {
		clock int
		txn   string
		list  []impl.Done
		want  string
	}{
		{100, "1 20 1=7", nil, "full"},
		{100, "1 20 2=7", list, "full"},
		{100, "1 20 2=7", list[:29], "ok 0"},
		{100, "1 20 1=7", list[:29], "full"},
		{100, "1 20 1=7", dones("0 21 =1"), "conflict"},
		{100, "1 20 1=7", dones("0 20 =1"), "full"},
		{100, "1 20 ?2 1=7", dones("0 21 =2 ?1"), "pivot"},
		{100, "1 20 ?2 1=7", dones("0 21 =2|0 22 ?1"), "pivot"},
		{100, "1 20 ?2 1=7", dones("0 21 =2"), "full"},
		{100, "1 20 ?2 1=7", dones("0 21 =2 ?1|0 22 =1"), "conflict"},
		{100, "1 20 9=7", list, "conflict"},
		{100, "1 20 8=7 ?9", list, "pivot"},
		{100, "1 20 8=7", list, "full"},
		{impl.MaxClock, "1 20 1=7", nil, "many"},
		{impl.MaxClock, "1 20 1=7", dones("0 21 =1"), "many"},
		{impl.MaxClock, "1 20 8=7 ?9", list, "many"},
		{impl.MaxClock, "1 20", nil, "many"},
	} {
		s.Clock, s.Txns, s.Done = row.clock, []impl.Txn{txn("0 0"), txn(row.txn)}, row.list
		x := doIs(t, s, command("1 commit"), row.txn, reply(row.want))
		// The oldest one is open still: nothing is cleaned up.
		want := s
		want.Txns = s.Txns[:1]
		if row.want != "ok 0" {
			storeIs(t, row.txn+" is "+row.want, x, want)
		}
	}
}

// Whatever an aborted one did, all is as it was when it began.
func TestP12AbortLeavesNoTrace(t *testing.T) {
	s := talk(t, fresh(), "0 insert 1=1: ok 1", "0 insert 2=2: ok 1", "0 insert more.3=3: ok 1", "0 index docs.one k: ok 0")
	x := talk(t, s, "2 begin: ok 0", "2 inc *: ok 2", "2 delete ?1: ok 1", "2 insert 5=5: ok 1", "2 delete *more: ok 1", "2 insert more.3=9: ok 1", "2 find *: ok 2 2=3 5=5", "2 insert 5=6: twice")
	nowIs(t, x, "docs", "1=1 2=2")
	nowIs(t, x, "more", "3=3")
	talk(t, x, "1 begin: ok 0", "1 find *: ok 2 1=1 2=2", "1 count *more: ok 1", "0 find *more: ok 1 3=3")
	storeIs(t, "aborted", talk(t, x, "2 abort: ok 0"), s)
	// What others did meanwhile stays.
	y := talk(t, x, "0 inc ?1: ok 1", "0 insert 7=7: ok 1", "2 abort: ok 0")
	storeIs(t, "aborted", y, talk(t, s, "0 inc ?1: ok 1", "0 insert 7=7: ok 1"))
}
