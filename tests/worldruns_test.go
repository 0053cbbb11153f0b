package tests

import (
	"fmt"
	"math/rand"
	"slices"
	"testing"

	"loop.example/g00380/impl"
)

// runIsBy holds WorldRun to a recorder that does so many of the commands.
func runIsBy(t *testing.T, what string, list []impl.Command, n int) (impl.World, []impl.Reply) {
	t.Helper()
	x := &recorder{s: fresh()}
	var want []impl.Reply
	for _, c := range list[:n] {
		want = append(want, x.do(t, c))
	}
	w, replies, code := impl.WorldRun(list)
	if !slices.EqualFunc(replies, want, sameReply) || code != impl.OK {
		t.Errorf("WorldRun, %s: %d replies, %d, not %d", what, len(replies), code, len(want))
	}
	worldIs(t, "WorldRun, "+what, w, x.world())
	if !impl.WorldOK(w) {
		t.Errorf("WorldRun, %s: %s is not right", what, shownWorld(w))
	}
	return w, replies
}

// noRunOf holds WorldRun to a code, with nothing beside it.
func noRunOf(t *testing.T, what string, list []impl.Command, code int) {
	t.Helper()
	if w, replies, k := impl.WorldRun(list); !isZeroWorld(w) || len(replies) != 0 || k != code {
		t.Errorf("WorldRun, %s: %s, %d replies, %d, not %d", what, shownWorld(w), len(replies), k, code)
	}
}

func commands(texts ...string) []impl.Command {
	var list []impl.Command
	for _, text := range texts {
		list = append(list, command(text))
	}
	return list
}

func TestP14RunOfNothing(t *testing.T) {
	for _, list := range [][]impl.Command{nil, {}, make([]impl.Command, 0, 9)} {
		w, _ := runIsBy(t, "none", list, 0)
		worldIs(t, "a run of none", w, impl.NewWorld())
	}
}

func TestP14RunOfHowMany(t *testing.T) {
	aborts := commands(lines(impl.MaxList+2, "0 abort")...)
	for _, n := range []int{1, 2, 40, 41, 60, 99, 100} {
		runIsBy(t, fmt.Sprint(n, " commands"), aborts[:n], n)
	}
	for _, n := range []int{101, 102, 1000, impl.MaxList - 1, impl.MaxList} {
		noRunOf(t, fmt.Sprint(n, " commands"), aborts[:n], impl.ErrMany)
		noRunOf(t, fmt.Sprint(n, " zero ones"), make([]impl.Command, n), impl.ErrMany)
	}
	for _, n := range []int{impl.MaxList + 1, impl.MaxList + 2, 2 * impl.MaxList} {
		noRunOf(t, fmt.Sprint(n, " commands"), slices.Repeat(aborts[:1], n), impl.ErrLong)
		noRunOf(t, fmt.Sprint(n, " zero ones"), make([]impl.Command, n), impl.ErrLong)
	}
}

func TestP14RunOfWrongCommands(t *testing.T) {
	for _, n := range []int{1, 2, 3, 50, 99, 100} {
		for _, place := range []int{0, n / 2, n - 1} {
			for _, bad := range []impl.Command{{}, {Kind: 11}, {Kind: impl.CoBegin, Session: 4}, {Kind: impl.CoInsert, Coll: "docs"}, {Kind: impl.CoUpdate, Coll: "docs", Query: impl.Query{Filter: everything()}}} {
				list := commands(lines(n, "0 find *")...)
				list[place] = bad
				// Also behind the one that there is no more room for.
				noRunOf(t, fmt.Sprint("a wrong one at ", place, " of ", n), list, impl.ErrBad)
			}
		}
	}
	noRunOf(t, "a wrong one of 101", append(commands(lines(100, "0 abort")...), impl.Command{}), impl.ErrMany)
}

// A run ends at the first command that there is no room for, whatever stands behind it.
func TestP14RunsToManyPasts(t *testing.T) {
	alone := commands(lines(40, "0 count *")...)
	for _, row := range []struct {
		texts []string
		n     int
	}{
		{nil, 40}, {[]string{"0 count *"}, 40}, {[]string{"1 abort"}, 40}, {[]string{"1 begin", "1 count *", "1 commit"}, 40}, {lines(60, "2 find *none"), 40},
	} {
		w, replies := runIsBy(t, fmt.Sprint("40 and ", row.texts), slices.Concat(alone, commands(row.texts...)), row.n)
		if len(w.Past) != 40 || len(replies) != 40 {
			t.Errorf("40 and %v: %d pasts, %d replies", row.texts, len(w.Past), len(replies))
		}
		serialIsHeld(t, "40 pasts", w, true, impl.OK)
	}
	// What is no past takes no room.
	list := slices.Concat(commands(lines(40, "1 abort")...), alone[:20], commands("2 begin", "2 insert 1=1"), alone[:18], commands("2 count *", "2 count *", "2 commit", "0 count *", "2 abort", "0 begin"))
	w, _ := runIsBy(t, "in between", list, 84)
	if len(w.Past) != 40 || len(w.Open[2].Steps) != 0 || !impl.SameReply(w.Past[38].Steps[2].Reply, impl.Reply{N: 1}) {
		t.Errorf("in between: %s", shownWorld(w))
	}
	w, _ = runIsBy(t, "still open", slices.Concat(alone[:20], commands("2 begin", "2 insert 1=1"), alone[:20], commands("2 commit")), 42)
	if len(w.Past) != 40 || len(w.Open[2].Steps) != 1 || len(w.Store.Txns) != 1 {
		t.Errorf("still open: %s", shownWorld(w))
	}
}

// A run is too short for 100 Steps: only behind it there are so many.
func TestP14RunsToManySteps(t *testing.T) {
	w, _ := runIsBy(t, "99 Steps", slices.Concat(commands("3 begin"), commands(lines(99, "3 find *none")...)), 100)
	w = worldTalk(t, w, "3 count *: ok 0")
	notDone(t, "100 Steps", w, command("3 count *"), impl.ErrMany)
	notDone(t, "100 Steps", w, command("3 commit"), impl.ErrMany)
	w = worldTalk(t, w, "2 count *: ok 0")
	serialIsHeld(t, "100 Steps open", w, true, impl.OK)
}

// hotCommand is of few documents, so that many have to do with one another.
func hotCommand(r *rand.Rand) impl.Command {
	what := []string{"begin", "begin", "begin", "commit", "commit", "abort", "find *", "count *more", "insert 1=1", "insert 2=2", "insert more.3=3", "inc *", "inc *more", "delete *", "find ?1", "find ?2", "inc ?1", "inc ?2", "count >1", "find ?more.3", "inc ?more.3", "delete ?2", "insert none.1=1", "insert 20=1", "find *none"}
	return command(fmt.Sprint(r.Intn(impl.MaxSessions), " ", pick(r, what)))
}

// worldCommands are a run, of documents of all shapes or of few.
func worldCommands(r *rand.Rand) []impl.Command {
	run := newStoreRun(r, 0, map[string]int{})
	run.alone = pick(r, []int{0, 0, 2})
	hot := r.Intn(3)
	var list []impl.Command
	for range pick(r, []int{5, 20, 60, impl.MaxCommands, impl.MaxCommands}) {
		c := run.next(impl.CoBegin, impl.CoBegin, impl.CoCommit, impl.CoCommit, impl.CoAbort)
		if c.Coll == "a" {
			c.Coll = "docs"
		}
		if r.Intn(2) < hot {
			c = hotCommand(r)
		}
		list = append(list, c)
	}
	return list
}

// The theorem of serial order.
func TestP14RandomRuns(t *testing.T) {
	counts := map[string]int{}
	for seed := range int64(800) {
		r := rand.New(rand.NewSource(1410 + seed))
		list := worldCommands(r)
		w, replies, code := impl.WorldRun(list)
		if code != impl.OK {
			t.Fatalf("WorldRun: %d", code)
		}
		runIsBy(t, "random", list, len(replies))
		if len(replies) < len(list) {
			counts["ended"]++
			notDone(t, "ended", w, list[len(replies)], impl.ErrMany)
		}
		serialIsHeld(t, fmt.Sprint("the seed ", seed), w, true, impl.OK)
		for i, reply := range replies {
			counts[fmt.Sprint(kindWords[list[i].Kind], " ", impl.CodeWord(reply.Code))]++
		}
		dones := donesOf(w.Past)
		if order, _ := impl.SerialOrder(dones); !slices.IsSorted(order) {
			counts["moved"]++
		}
		for _, p := range w.Past {
			if len(p.Steps) > 2 {
				counts["several Steps"]++
			}
		}
		if t.Failed() {
			t.FailNow()
		}
	}
	saw(t, counts, map[string]int{"ended": 30, "moved": 40, "several Steps": 150, "commit ok": 400, "commit conflict": 100, "commit pivot": 50, "commit state": 100, "abort ok": 200, "insert ok": 400, "insert twice": 200, "find ok": 400, "update ok": 300, "delete ok": 150, "count ok": 200, "index ok": 5, "drop ok": 1, "find name": 20})
}

// Behind each command of a run the theorem holds, and WorldDo comes to what WorldRun does.
func TestP14EachCommandOfARun(t *testing.T) {
	for seed := range int64(40) {
		r := rand.New(rand.NewSource(1430 + seed))
		list := worldCommands(r)
		w := impl.NewWorld()
		var replies []impl.Reply
		for _, c := range list {
			x, reply, code := impl.WorldDo(w, c)
			if code == impl.ErrMany {
				break
			}
			if code != impl.OK {
				t.Fatalf("WorldDo: %d", code)
			}
			w, replies = x, append(replies, reply)
			serialIsHeld(t, fmt.Sprint("the seed ", seed), w, true, impl.OK)
		}
		x, told, code := impl.WorldRun(list)
		worldIs(t, "WorldRun", x, w)
		if !slices.EqualFunc(told, replies, sameReply) || code != impl.OK {
			t.Errorf("WorldRun: %d replies, %d, not %d", len(told), code, len(replies))
		}
		if t.Failed() {
			t.FailNow()
		}
	}
}

// Of two runs that begin alike the first replies are alike.
func TestP14LaterCommandsChangeNoReply(t *testing.T) {
	for seed := range int64(30) {
		r := rand.New(rand.NewSource(1450 + seed))
		list := worldCommands(r)
		_, whole, _ := impl.WorldRun(list)
		n := r.Intn(len(list) + 1)
		_, part, _ := impl.WorldRun(list[:n])
		if !slices.EqualFunc(part, whole[:min(n, len(whole))], sameReply) {
			t.Errorf("%d of %d commands have other replies", n, len(list))
		}
	}
}
