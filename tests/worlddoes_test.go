package tests

import (
	"fmt"
	"math"
	"slices"
	"strings"
	"testing"

	"loop.example/g00380/impl"
)

func recorderOf(w impl.World) *recorder {
	x := &recorder{s: w.Store, past: slices.Clone(w.Past)}
	for i, p := range w.Open {
		x.open[i] = slices.Clone(p.Steps)
	}
	return x
}

func (x *recorder) world() impl.World {
	w := worldOf(x.s, x.past...)
	for i, list := range x.open {
		w.Open[i].Steps = list
	}
	return w
}

// worldDoes does one command, and holds all that comes of it to the store and to a recorder.
func worldDoes(t *testing.T, what string, w impl.World, c impl.Command) (impl.World, impl.Reply) {
	t.Helper()
	x := recorderOf(w)
	want := x.do(t, c)
	got, r, code := impl.WorldDo(w, c)
	if !sameReply(r, want) || code != impl.OK {
		t.Errorf("WorldDo, %s: %s, %d, not %s", what, shownReply(r), code, shownReply(want))
	}
	worldIs(t, "WorldDo, "+what, got, x.world())
	// Open Steps of any kind may have been committed.
	if right := worldRight(got); impl.WorldOK(got) != right || !right && c.Kind != impl.CoCommit {
		t.Errorf("WorldDo, %s: %s is right: %v", what, shownWorld(got), !right)
	}
	return got, r
}

// notDone holds WorldDo to a code, with nothing beside it.
func notDone(t *testing.T, what string, w impl.World, c impl.Command, code int) {
	t.Helper()
	if got, r, k := impl.WorldDo(w, c); !isZeroWorld(got) || !isZeroReply(r) || k != code {
		t.Errorf("WorldDo of %d, %s: %s, %s, %d, not %d", c.Kind, what, shownWorld(got), shownReply(r), k, code)
	}
}

// worldTalk has lines of a command and its reply, as talk has them.
func worldTalk(t *testing.T, w impl.World, lines ...string) impl.World {
	t.Helper()
	for _, line := range lines {
		text, want, _ := strings.Cut(line, ": ")
		x, r := worldDoes(t, line, w, command(text))
		if !sameReply(r, reply(want)) {
			t.Errorf("WorldDo, %s: %s", line, shownReply(r))
		}
		w = x
	}
	return w
}

// keptIs holds a world's Past to some, and its Open Steps to lines of each session.
func keptIs(t *testing.T, what string, w impl.World, list []impl.Past, open map[int][]string) {
	t.Helper()
	if !slices.EqualFunc(w.Past, list, samePast) {
		t.Errorf("%s: the Past of %s is not that of %s", what, shownWorld(w), shownWorld(worldOf(w.Store, list...)))
	}
	for session, p := range w.Open {
		if !slices.EqualFunc(p.Steps, steps(open[session]...), sameStep) {
			t.Errorf("%s: open of %d is %s", what, session, shownSteps(p.Steps))
		}
	}
}

// twoThings is a world with the things 1=1 and 2=2, and nothing past.
func twoThings() impl.World { return worldOf(chains(2, "1 1=1|2 2=2", "")) }

func changedThing(id, before, after int) impl.Change {
	return impl.Change{Write: put(id, after), Before: thing(id, before), Was: true}
}

func TestP14StepsJoinTheirSession(t *testing.T) {
	w := worldTalk(t, twoThings(), "1 begin: ok 0", "3 begin: ok 0")
	lines := map[int][]string{}
	for _, line := range []string{
		"1 find *: ok 2 1=1 2=2", "1 insert 5=5: ok 1", "3 count *: ok 2", "1 inc ?1: ok 1", "3 delete ?2: ok 1", "1 count >1: ok 3", "3 find *: ok 1 1=1", "1 delete *: ok 3",
		// With a code, too.
		"1 insert 5=5: ok 1", "1 insert 5=6: twice", "3 insert 20=1: range", "3 find *none: name", "1 inc *none: name", "1 insert none.20=1: name", "3 insert 1=7: twice",
		// Alike ones as often as they come.
		"3 count *: ok 1", "3 count *: ok 1", "3 count *: ok 1",
	} {
		session := number(line[:1])
		lines[session] = append(lines[session], line)
		w = worldTalk(t, w, line)
		keptIs(t, line, w, nil, lines)
	}
	// Whoever is beside them has no Steps.
	w = worldTalk(t, w, "0 find ?2: ok 1 2=2", "2 insert 2=9: twice", "2 commit: state", "0 abort: state", "1 begin: state", "3 begin: state", "0 index docs.one k: busy", "2 drop docs.one: busy")
	keptIs(t, "beside them", w, []impl.Past{past("2 3 ?2", "0 find ?2: ok 1 2=2")}, lines)
	// With as many reads as there may be all that would read more is full.
	more := lines[1]
	for n := len(w.Store.Txns[0].Reads); n < impl.MaxReads; n++ {
		more = append(more, "1 count >9: ok 0")
		w = worldTalk(t, w, more[len(more)-1])
	}
	lines[1] = append(more, "1 find *: full", "1 insert 7=7: full")
	w = worldTalk(t, w, "1 find *: full", "1 insert 7=7: full")
	keptIs(t, "full", w, []impl.Past{past("2 3 ?2", "0 find ?2: ok 1 2=2")}, lines)
}

// What Certify was given, not what became of it there: the flags stay false.
func TestP14CommitsArePast(t *testing.T) {
	w := worldTalk(t, twoThings(), "0 begin: ok 0", "1 begin: ok 0", "2 begin: ok 0", "0 find ?1: ok 1 1=1", "0 inc ?2: ok 1", "1 inc ?1: ok 1", "1 insert more.5=5: ok 1", "1 insert 1=7: twice", "2 count ?1: ok 1")
	first := impl.Past{Done: done("2 3 ?1 ?2"), Steps: steps("0 find ?1: ok 1 1=1", "0 inc ?2: ok 1")}
	first.Done.Changes = []impl.Change{changedThing(2, 2, 3)}
	w = worldTalk(t, w, "0 commit: ok 0")
	keptIs(t, "the first", w, []impl.Past{first}, map[int][]string{1: {"1 inc ?1: ok 1", "1 insert more.5=5: ok 1", "1 insert 1=7: twice"}, 2: {"2 count ?1: ok 1"}})
	second := impl.Past{Done: done("2 4 ?1 ?more.5 ?1"), Steps: steps("1 inc ?1: ok 1", "1 insert more.5=5: ok 1", "1 insert 1=7: twice")}
	second.Done.Changes = []impl.Change{changedThing(1, 1, 2), {Write: impl.Write{Coll: "more", Id: 5, Doc: thing(5, 5)}}}
	w = worldTalk(t, w, "1 commit: ok 0")
	keptIs(t, "the second", w, []impl.Past{first, second}, map[int][]string{2: {"2 count ?1: ok 1"}})
	if d := w.Store.Done; len(d) != 2 || !d[0].Out || !d[1].In {
		t.Errorf("the store's: %s", shownDones(d))
	}
	third := past("2 5 ?1", "2 count ?1: ok 1")
	w = worldTalk(t, w, "2 commit: ok 0")
	keptIs(t, "the third", w, []impl.Past{first, second, third}, nil)
	if len(w.Store.Done) != 0 {
		t.Errorf("the store keeps %s", shownDones(w.Store.Done))
	}
	// One that asked nothing is past, too, and so is one that wrote what it took away again.
	w = worldTalk(t, w, "3 begin: ok 0", "3 commit: ok 0")
	keptIs(t, "nothing", w, []impl.Past{first, second, third, past("5 6")}, nil)
	w = worldTalk(t, w, "3 begin: ok 0", "3 insert 9=9: ok 1", "3 delete ?9: ok 1", "3 commit: ok 0")
	keptIs(t, "there and back", w, []impl.Past{first, second, third, past("5 6"), past("6 7 ?9 ?9 ~9", "3 insert 9=9: ok 1", "3 delete ?9: ok 1")}, nil)
}

// The Before of a change is what stood there at the commit, which somebody else may have put there
// since the Snap only if nobody is refused for it: so it is what was seen.
func TestP14WhatWasThereAhead(t *testing.T) {
	w := worldTalk(t, worldOf(fresh()), "0 insert 1=1: ok 1", "0 inc *: ok 1", "0 delete *: ok 1", "0 insert 1=5: ok 1", "0 delete ?7: ok 0")
	want := []impl.Change{{Write: put(1, 1)}, changedThing(1, 1, 2), {Write: gone(1), Before: thing(1, 2), Was: true}, {Write: put(1, 5)}}
	for i, p := range w.Past[:4] {
		if !slices.Equal(p.Done.Changes, want[i:i+1]) || p.Done.Snap != i || p.Done.At != i+1 {
			t.Errorf("the past %d: %s", i, shownDone(p.Done))
		}
	}
	if p := w.Past[4]; len(p.Done.Changes) != 0 || !sameDone(p.Done, done("4 5 ?7")) {
		t.Errorf("the last past: %s", shownDone(p.Done))
	}
}

func TestP14RefusedCommitsLeaveNone(t *testing.T) {
	for what, lines := range map[string][]string{
		"conflict": {"1 begin: ok 0", "2 begin: ok 0", "1 inc ?1: ok 1", "2 inc ?1: ok 1", "1 commit: ok 0", "2 commit: conflict"},
		"pivot":    {"1 begin: ok 0", "2 begin: ok 0", "1 find ?1: ok 1 1=1", "2 find ?2: ok 1 2=2", "1 inc ?2: ok 1", "2 inc ?1: ok 1", "1 commit: ok 0", "2 commit: pivot"},
		"alone":    {"2 begin: ok 0", "2 inc ?1: ok 1", "1 delete *: ok 2", "2 commit: conflict"},
	} {
		w := worldTalk(t, twoThings(), lines...)
		if len(w.Past) != 1 || len(w.Open[2].Steps) != 0 || len(w.Store.Txns) != 0 {
			t.Errorf("%s: %s", what, shownWorld(w))
		}
		// Tried once more, only what it asks then is past.
		w = worldTalk(t, w, "2 begin: ok 0", "2 count ?9: ok 0", "2 commit: ok 0")
		if p := w.Past[1]; !samePast(p, past("3 4 ?9", "2 count ?9: ok 0")) {
			t.Errorf("%s, once more: %s", what, shownWorld(w))
		}
	}
	// At MaxClock, and where a chain has no room.
	w := worldTalk(t, worldOf(chains(impl.MaxClock, "1 1=1", "")), "1 begin: ok 0", "1 inc *: ok 1", "0 find *: many", "1 commit: many")
	keptIs(t, "MaxClock", w, nil, nil)
	w = withSteps(worldOf(withTxns(chains(20, "1 1=1 2=1 3=1 4=1 5=1 6=1 7=1 8=1 9=1 10=1 11=1 12=2", ""), "0 1", "1 12 ?1 1=3")), 1, steps("1 inc ?1: ok 1"))
	w = worldTalk(t, w, "2 inc ?1: full", "1 commit: full")
	keptIs(t, "a full chain", w, nil, nil)
	w = worldOf(withTxns(chains(40, "1 1=1", ""), "0 0", "1 40 ?1"))
	w.Store.Done = manyDones(impl.MaxDone)
	w = worldTalk(t, withSteps(w, 1, steps("1 find ?1: ok 1 1=1")), "2 find *: full", "1 commit: full")
	keptIs(t, "MaxDone", w, nil, nil)
}

func TestP14AbortsLeaveNone(t *testing.T) {
	w := worldTalk(t, twoThings(), "1 begin: ok 0", "1 inc *: ok 2", "1 insert 1=1: twice", "2 begin: ok 0", "2 find *: ok 2 1=1 2=2", "1 abort: ok 0")
	keptIs(t, "aborted", w, nil, map[int][]string{2: {"2 find *: ok 2 1=1 2=2"}})
	w = worldTalk(t, w, "2 abort: ok 0")
	worldIs(t, "both aborted", w, twoThings())
	w = worldTalk(t, w, "1 begin: ok 0", "1 abort: ok 0", "1 begin: ok 0", "1 count *: ok 2", "1 commit: ok 0")
	if len(w.Past) != 1 || !slices.EqualFunc(w.Past[0].Steps, steps("1 count *: ok 2"), sameStep) {
		t.Errorf("behind two: %s", shownWorld(w))
	}
}

// sevens has Steps of each session, but of those without one.
func sevens(without ...int) map[int][]string {
	open := map[int][]string{}
	for session := range impl.MaxSessions {
		if !slices.Contains(without, session) {
			open[session] = []string{fmt.Sprint(session, " insert 7=7: ok 1"), "3 find *: busy"}
		}
	}
	return open
}

// Whatever a world says is open of a session that has nothing open stays there, but an abort leaves none.
func TestP14NothingIsOpen(t *testing.T) {
	w := worldOf(withTxns(chains(6, "1 2=1", ""), "1 3 ?1"), threePasts()...)
	for session, lines := range sevens() {
		w = withSteps(w, session, steps(lines...))
	}
	for _, session := range []int{0, 2, 3} {
		x := worldTalk(t, w, fmt.Sprint(session, " commit: state"))
		worldIs(t, "committed", x, w)
		x = worldTalk(t, w, fmt.Sprint(session, " abort: state"))
		worldIs(t, "aborted", x, withSteps(w, session, nil))
		keptIs(t, "aborted", worldTalk(t, x, fmt.Sprint(session, " abort: state")), w.Past, sevens(session))
		keptIs(t, "begun behind it", worldTalk(t, x, fmt.Sprint(session, " begin: ok 0")), w.Past, sevens(session))
		x = worldTalk(t, w, fmt.Sprint(session, " begin: ok 0"))
		keptIs(t, "begun", x, w.Past, sevens())
		keptIs(t, "begun and aborted", worldTalk(t, x, fmt.Sprint(session, " abort: ok 0")), w.Past, sevens(session))
	}
	x := worldTalk(t, w, "1 abort: ok 0")
	keptIs(t, "aborted", x, w.Past, sevens(1))
	x = worldTalk(t, x, "1 abort: state", "3 abort: state", "0 abort: state")
	keptIs(t, "all but one aborted", x, w.Past, sevens(0, 1, 3))
	x = worldTalk(t, w, "1 commit: ok 0")
	keptIs(t, "committed", x, append(slices.Clone(w.Past), past("3 7 ?1", sevens()[1]...)), sevens(1))
}

// oddSteps are such as no list of chapter 13 has.
func oddSteps() []impl.Step {
	list := []impl.Step{{}, {Command: impl.Command{Kind: 99}, Reply: impl.Reply{Code: 77}}, {Command: impl.Command{Kind: math.MinInt, Session: math.MaxInt}, Reply: impl.Reply{Code: math.MinInt, N: math.MaxInt}}}
	for _, c := range append(oneOfEach(), command("1 find *"), impl.Command{Kind: impl.CoFind, Coll: "docs"}, impl.Command{Kind: impl.CoInsert, Coll: "9", Doc: thing(1, 1)}) {
		list = append(list, impl.Step{Command: c, Reply: impl.Reply{Code: 20}})
		if c.Kind < impl.CoInsert || c.Kind > impl.CoCount || !impl.CommandOK(c) {
			list = append(list, impl.Step{Command: c})
		}
	}
	return append(list, impl.Step{Command: command("4 find *")}, impl.Step{Command: command("1 find *"), Reply: impl.Reply{Code: -1}}, impl.Step{Command: command("1 find *"), Reply: impl.Reply{Docs: make([]impl.Value, 101)}},
		impl.Step{Command: impl.Command{Kind: 5, Coll: strings.Repeat("n", impl.MaxText+1), Updates: make([]impl.Update, impl.MaxList+1)}, Reply: impl.Reply{Docs: make([]impl.Value, impl.MaxList+1)}})
}

// Of what is open nothing is asked but how much it is: the Past alone asks more.
func TestP14OpenStepsOfAnyKind(t *testing.T) {
	for i, step := range oddSteps() {
		what := fmt.Sprint("the odd Step ", i)
		wrongWorld(t, what+", past", worldOf(fresh(), impl.Past{Done: done("0 1"), Steps: []impl.Step{step}}))
		wrongWorld(t, what+", past behind a right one", worldOf(fresh(), impl.Past{Done: done("0 1"), Steps: append(steps("0 find *: ok 0"), step)}))
		rightWorld(t, what+", 100 times", withSteps(worldOf(fresh()), i%4, slices.Repeat([]impl.Step{step}, 100)))
		wrongWorld(t, what+", 101 times", withSteps(worldOf(fresh()), i%4, slices.Repeat([]impl.Step{step}, 101)))
		for session := range impl.MaxSessions {
			rightWorld(t, what, withSteps(worldOf(fresh(), threePasts()...), session, []impl.Step{step}))
			w := withSteps(worldOf(fresh()), session, append(steps("0 find *: ok 0"), step))
			serialIsHeld(t, what, w, true, impl.OK)
			for mine := range impl.MaxSessions {
				worldTalk(t, w, fmt.Sprint(mine, " begin: ok 0"), fmt.Sprint(mine, " insert 1=1: ok 1"), fmt.Sprint(mine, " abort: ok 0"))
			}
		}
	}
}

// Committed such a Step is past as it stood, and the world is right no more.
func TestP14OddStepsCommitted(t *testing.T) {
	for i, step := range oddSteps() {
		w := withSteps(worldOf(withTxns(fresh(), "1 0 ?1")), 1, []impl.Step{step})
		w = worldTalk(t, w, "1 find ?1: ok 0", "1 commit: ok 0")
		keptIs(t, fmt.Sprint("the odd Step ", i), w, []impl.Past{{Done: done("0 1 ?1 ?1"), Steps: append([]impl.Step{step}, steps("1 find ?1: ok 0")...)}}, nil)
		wrongWorld(t, fmt.Sprint("the odd Step ", i, ", committed"), w)
	}
}

func TestP14CommandsAlone(t *testing.T) {
	var want []impl.Past
	w := worldOf(fresh())
	for _, row := range []struct{ line, done string }{
		{"0 insert 1=2: ok 1", "0 1 ?1 +1"}, {"1 insert 1=2: twice", ""}, {"2 insert more.1=2: ok 1", "1 2 ?more.1 +more.1"}, {"3 find ?1: ok 1 1=2", "2 3 ?1"}, {"3 find *none: name", ""}, {"0 insert 20=2: range", ""},
		{"1 count >1: ok 1", "3 4 >1"}, {"1 count >1: ok 1", "4 5 >1"}, {"1 insert none.1=1: name", ""}, {"2 inc >2: ok 0", "5 6 >2"}, {"2 delete ?7: ok 0", "6 7 ?7"}, {"0 inc *none: name", ""}, {"3 find ?more.1: ok 1 1=2", "7 8 ?more.1"},
	} {
		w = worldTalk(t, w, row.line)
		if row.done != "" {
			want = append(want, past(row.done, row.line))
		}
		keptIs(t, row.line, w, want, nil)
	}
	// Beside an open one just so, and one that could not be committed is not past.
	w = worldTalk(t, worldOf(fresh()), "0 insert 1=1: ok 1", "1 begin: ok 0", "1 find *: ok 1 1=1", "2 inc ?1: ok 1", "0 count ?1: ok 1", "1 insert 1=1: twice")
	if len(w.Past) != 3 || len(w.Open[1].Steps) != 2 || w.Past[1].Done.Snap != 1 || len(w.Past[1].Steps) != 1 {
		t.Errorf("beside an open one: %s", shownWorld(w))
	}
	// A find that would be refused, as somebody else would be a pivot then, is not past.
	w = worldTalk(t, twoThings(), "0 begin: ok 0", "0 find ?1: ok 1 1=1", "0 inc ?2: ok 1", "1 begin: ok 0", "1 inc ?1: ok 1", "1 commit: ok 0", "0 commit: ok 0")
	if len(w.Past) != 2 || !sameDone(w.Past[1].Done, impl.Done{Snap: 2, At: 4, Reads: readsOf("?1 ?2"), Changes: []impl.Change{changedThing(2, 2, 3)}}) {
		t.Errorf("bound ones: %s", shownWorld(w))
	}
}

func TestP14WhatKeepsNothing(t *testing.T) {
	w := worldTalk(t, twoThings(), "0 find *: ok 2 1=1 2=2")
	for _, line := range []string{"0 index docs.one k: ok 0", "1 index docs.one k: twice", "2 index none.one k: name", "3 drop docs.two: none", "0 drop docs.one: ok 0", "0 index more.one k -id: ok 0", "0 begin: ok 0", "0 begin: state", "0 index docs.two k: busy", "1 drop more.one: busy", "3 begin: ok 0"} {
		x := worldTalk(t, w, line)
		if len(x.Past) != 1 || slices.ContainsFunc(x.Open, func(p impl.Past) bool { return len(p.Steps) > 0 }) || x.Store.Clock != 3 {
			t.Errorf("%s: %s", line, shownWorld(x))
		}
		w = x
	}
}

// fullCommand has something of all that a command may have.
func fullCommand(kind int) impl.Command {
	c := wholeCommand()
	c.Kind, c.Updates = kind, append(c.Updates, update(impl.UpSet, "b", textOf("abc")))
	c.Query.Keep, c.Query.Sort, c.Query.Hint = []string{"k", "a"}, parts("-k", "a.b"), "one"
	return c
}

// A Step has the whole command, also what it has no use for.
func TestP14WholeCommandsAreKept(t *testing.T) {
	for kind := impl.CoInsert; kind <= impl.CoCount; kind++ {
		c := fullCommand(kind)
		w, r := worldDoes(t, "alone", worldOf(fresh()), c)
		if len(w.Past) != 1 || !sameStep(w.Past[0].Steps[0], impl.Step{Command: c, Reply: r}) {
			t.Errorf("the Kind %d alone: %s", kind, shownWorld(w))
		}
		c.Updates = append(c.Updates, make([]impl.Update, 7)...)
		c.Def = impl.Def{Name: "9", Parts: parts("a", "a", "9")}
		if kind == impl.CoUpdate {
			c.Updates = c.Updates[:1]
		}
		w, r = worldDoes(t, "open", worldTalk(t, worldOf(fresh()), "1 begin: ok 0"), c)
		if len(w.Open[1].Steps) != 1 || !sameStep(w.Open[1].Steps[0], impl.Step{Command: c, Reply: r}) {
			t.Errorf("the Kind %d, open: %s", kind, shownWorld(w))
		}
		w = worldTalk(t, w, "1 commit: ok 0")
		if len(w.Past) != 1 || !sameStep(w.Past[0].Steps[0], impl.Step{Command: c, Reply: r}) {
			t.Errorf("the Kind %d, committed: %s", kind, shownWorld(w))
		}
		serialIsHeld(t, "a whole command", w, true, impl.OK)
	}
}

// The Open pasts of other sessions are as they were, Done and all.
func TestP14OtherSessionsStay(t *testing.T) {
	w := worldTalk(t, twoThings(), "1 begin: ok 0", "2 begin: ok 0", "3 begin: ok 0", "2 count *: ok 2")
	w.Open[3] = impl.Past{Done: done("3 3 ?1 =2 in"), Steps: steps("0 find *: busy")}
	for _, c := range append(oneOfEach(), docCommands(1)...) {
		x, _, code := impl.WorldDo(w, c)
		if code != impl.OK || !samePast(x.Open[0], w.Open[0]) || !samePast(x.Open[2], w.Open[2]) || !samePast(x.Open[3], w.Open[3]) {
			t.Errorf("%d: %s, %d", c.Kind, shownWorld(x), code)
		}
	}
}

func TestP14PastsAreMany(t *testing.T) {
	for n := 37; n <= 40; n++ {
		for what, w := range map[string]impl.World{
			"nothing open": worldOf(chains(50, "1 1=1", "")), "open": withSteps(worldOf(withTxns(chains(50, "1 1=1", ""), "1 50")), 1, steps("1 find *: ok 1 1=1")), "all open": worldOf(withTxns(chains(50, "1 1=1", ""), "0 50", "1 50", "2 50", "3 50")),
		} {
			w.Past = pastsOf(manyDones(n))
			// Of all Kinds, also those that keep nothing, or come to no store's OK.
			rightWorld(t, fmt.Sprint(n, " pasts, ", what), w)
			for _, c := range append(docCommands(1), command("2 begin"), command("3 commit"), command("0 abort")) {
				if n < 40 {
					worldDoes(t, fmt.Sprint(n, " pasts, ", what), w, c)
				} else {
					notDone(t, fmt.Sprint(n, " pasts, ", what), w, c, impl.ErrMany)
				}
			}
		}
	}
	// The last one for which there is room is the 40th.
	w := worldOf(chains(50, "1 1=1", ""), pastsOf(manyDones(39))...)
	w = worldTalk(t, w, "1 begin: ok 0", "1 find *: ok 1 1=1", "2 insert 1=1: twice", "1 commit: ok 0")
	notDone(t, "39 and one more", w, command("0 abort"), impl.ErrMany)
	w = worldTalk(t, worldOf(chains(50, "1 1=1", ""), pastsOf(manyDones(39))...), "2 count *: ok 1")
	notDone(t, "39 and one alone", w, command("2 insert 1=1"), impl.ErrMany)
}

func TestP14StepsAreMany(t *testing.T) {
	full := slices.Repeat(steps("1 find *none: name"), 100)
	for session := range impl.MaxSessions {
		for _, n := range []int{98, 99, 100} {
			for _, s := range []impl.Store{fresh(), withTxns(fresh(), "0 0", "1 0", "2 0", "3 0")} {
				w := withSteps(worldOf(s), session, full[:n])
				for mine := range impl.MaxSessions {
					for _, c := range append(oneOfEach(), command("1 find *none"), command("1 insert 20=1")) {
						c.Session = mine
						if what := fmt.Sprint(n, " Steps of ", session); n < 100 || mine != session {
							worldDoes(t, what, w, c)
						} else {
							notDone(t, what, w, c, impl.ErrMany)
						}
					}
				}
			}
		}
	}
	w := worldTalk(t, withSteps(worldOf(withTxns(fresh(), "1 0")), 1, full[:99]), "1 insert 1=1: ok 1")
	if len(w.Open[1].Steps) != 100 {
		t.Errorf("99 and one more: %d", len(w.Open[1].Steps))
	}
	notDone(t, "100 Steps", w, command("1 commit"), impl.ErrMany)
	notDone(t, "100 Steps", w, command("1 abort"), impl.ErrMany)
	worldTalk(t, withSteps(w, 1, full[:99]), "1 commit: ok 0")
}

// ErrBad is told ahead of ErrMany, whichever of both is not right.
func TestP14WrongOnesAmongMany(t *testing.T) {
	many := worldOf(fresh(), pastsOf(manyDones(40))...)
	full := withSteps(worldOf(fresh()), 1, slices.Repeat(steps("1 find *: ok 0"), 100))
	for _, w := range []impl.World{many, full} {
		for _, c := range []impl.Command{{}, {Kind: 11, Session: 1}, {Kind: impl.CoBegin, Session: 4}, {Kind: impl.CoBegin, Session: -1}, {Kind: impl.CoFind, Session: 1, Coll: "docs"}, {Kind: impl.CoInsert, Session: 1, Coll: "9", Doc: thing(1, 1)}} {
			notDone(t, "a wrong command of many", w, c, impl.ErrBad)
		}
		for place := range 2 {
			x := w
			if place == 0 {
				x.Store.Clock = -1
			} else {
				x.Open = x.Open[:3]
			}
			wrongWorld(t, "a wrong world of many", x)
		}
	}
}
