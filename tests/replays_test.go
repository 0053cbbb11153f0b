package tests

import (
	"fmt"
	"slices"
	"strings"
	"testing"

	"loop.example/g00380/impl"
)

// steps are lines of a command and its reply, as talk has them.
func steps(lines ...string) []impl.Step {
	var list []impl.Step
	for _, line := range lines {
		text, want, _ := strings.Cut(line, ": ")
		list = append(list, impl.Step{Command: command(text), Reply: reply(want)})
	}
	return list
}

// past is written as done has it, then lines.
func past(text string, lines ...string) impl.Past {
	return impl.Past{Done: done(text), Steps: steps(lines...)}
}

func donesOf(list []impl.Past) []impl.Done {
	var all []impl.Done
	for _, p := range list {
		all = append(all, p.Done)
	}
	return all
}

// replayed is what chapter 13 says of Replay, command by command.
func replayed(t *testing.T, names []string, list []impl.Past, order []int) (impl.Store, bool) {
	t.Helper()
	s, code := impl.NewStore(names)
	same := code == impl.OK
	ask := func(c impl.Command) impl.Reply {
		x, r, code := impl.Do(s, c)
		if code != impl.OK {
			t.Fatalf("Do: %d", code)
		}
		s = x
		return r
	}
	for _, place := range order {
		ask(command("0 begin"))
		for _, step := range list[place].Steps {
			c := step.Command
			c.Session = 0
			same = sameReply(ask(c), step.Reply) && same
		}
		same = ask(command("0 commit")).Code == impl.OK && same
	}
	return s, same
}

var twoNames = []string{"docs", "more"}

// replayIs holds Replay to a bool, and to a store.
func replayIs(t *testing.T, what string, names []string, list []impl.Past, order []int, same bool, want impl.Store) {
	t.Helper()
	s, got, code := impl.Replay(names, list, order)
	if got != same || code != impl.OK {
		t.Errorf("Replay, %s, in the order %v: %v, %d, not %v", what, order, got, code, same)
	}
	storeIs(t, fmt.Sprint("Replay, ", what, ", in the order ", order), s, want)
	if x, y := replayed(t, names, list, order); !sameStore(s, x) || got != y {
		t.Errorf("Replay, %s, in the order %v: %s, %v, but done by hand %s, %v", what, order, shownStore(s), got, shownStore(x), y)
	}
}

// chains is a store of docs and more, both written as coll has them.
func chains(clock int, docs, more string) impl.Store {
	return storeOf(clock, coll(docs), named("more", more))
}

func TestP13ReplayOfNothing(t *testing.T) {
	one := []impl.Past{past("0 1 +1", "0 insert 1=1: ok 1")}
	for _, names := range [][]string{{"a"}, {"docs"}, twoNames, {"a", "b", "c"}} {
		want, _ := impl.NewStore(names)
		replayIs(t, "none", names, nil, nil, true, want)
		replayIs(t, "none", names, []impl.Past{}, []int{}, true, want)
		// Those that the order leaves out are not asked.
		replayIs(t, "one left out", names, one, nil, true, want)
	}
}

func TestP13ReplayOfOne(t *testing.T) {
	for _, row := range []struct {
		lines      []string
		docs, more string
	}{
		{nil, "", ""},
		{[]string{"0 insert 1=1: ok 1"}, "1 1=1", ""},
		{[]string{"0 insert 1=1: ok 1", "0 insert more.2=2: ok 1", "0 find *: ok 1 1=1", "0 count *more: ok 1"}, "1 1=1", "2 1=2"},
		{[]string{"0 insert 1=1: ok 1", "0 insert 2=2: ok 1", "0 inc *: ok 2", "0 delete ?1: ok 1", "0 find *: ok 1 2=3", "0 inc *: ok 1"}, "2 1=4", ""},
		{[]string{"0 find *: ok 0", "0 count *: ok 0", "0 inc *: ok 0", "0 delete *: ok 0"}, "", ""},
		// Codes are replies like others.
		{[]string{"0 insert 1=1: ok 1", "0 insert 1=2: twice", "0 insert 20=1: range", "0 insert none.1=1: name", "0 find *none: name", "0 find *: ok 1 1=1"}, "1 1=1", ""},
		// Whoever asked it, all is one transaction's here.
		{[]string{"3 insert 1=1: ok 1", "3 inc *: ok 1", "3 find *: ok 1 1=2"}, "1 1=2", ""},
		{[]string{"0 insert 1=1: ok 1", "1 find *: ok 1 1=1", "2 inc *: ok 1", "3 find *: ok 1 1=2", "1 insert 1=5: twice", "0 inc *: ok 1"}, "1 1=3", ""},
	} {
		p := impl.Past{Done: done("0 1"), Steps: steps(row.lines...)}
		what := fmt.Sprint(row.lines)
		replayIs(t, what, twoNames, []impl.Past{p}, []int{0}, true, chains(1, row.docs, row.more))
		// What the Done says is not asked, as long as it is right.
		for _, text := range []string{"7 9 ?1 =2", "0 10000 -1 +5 in out", "9999 10000 >3"} {
			p.Done = done(text)
			replayIs(t, what, twoNames, []impl.Past{p}, []int{0}, true, chains(1, row.docs, row.more))
		}
	}
	// With as many reads as there may be all that would read more is full, and told so.
	list := steps(append(lines(impl.MaxReads-1, "2 find *: ok 0"), "2 insert 1=1: ok 1", "2 find *: full", "2 insert 2=2: full", "2 inc *: full", "2 delete *: full", "2 count *: full", "2 insert 20=2: range")...)
	replayIs(t, "many reads", twoNames, []impl.Past{{Done: done("0 1"), Steps: list}}, []int{0}, true, chains(1, "1 1=1", ""))
}

// threePasts are of three transactions, of which the second one began ahead of the first one's end, and
// the third one behind.
func threePasts() []impl.Past {
	return []impl.Past{
		past("0 1 +1", "0 insert 1=1: ok 1"),
		past("0 2 ?1 +more.5", "1 find ?1: ok 0", "1 insert more.5=5: ok 1"),
		past("2 3 ?1 ?more.5 =1", "2 inc ?1: ok 1", "2 find *: ok 1 1=2", "2 count *more: ok 1"),
	}
}

func TestP13ReplayInAnOrder(t *testing.T) {
	list := threePasts()
	orderIs(t, donesOf(list), 1, 0, 2)
	for _, row := range []struct {
		order      []int
		same       bool
		clock      int
		docs, more string
	}{
		{[]int{1, 0, 2}, true, 3, "1 3=2", "5 1=5"},
		// One bound pair is parted: the second one would have found what the first one inserted.
		{[]int{0, 1, 2}, false, 3, "1 3=2", "5 2=5"},
		{[]int{0, 2, 1}, false, 3, "1 2=2", "5 3=5"},
		{[]int{1, 2, 0}, false, 3, "1 3=1", "5 1=5"},
		{[]int{2, 1, 0}, false, 3, "1 3=1", "5 2=5"},
		{[]int{2, 0, 1}, false, 3, "1 2=1", "5 3=5"},
		// Places are left out.
		{[]int{1, 0}, true, 2, "1 2=1", "5 1=5"},
		{[]int{1}, true, 1, "", "5 1=5"},
		{[]int{0}, true, 1, "1 1=1", ""},
		{[]int{2}, false, 1, "", ""},
		{[]int{0, 2}, false, 2, "1 2=2", ""},
		{[]int{1, 2}, false, 2, "", "5 1=5"},
		{[]int{0, 1}, false, 2, "1 1=1", "5 2=5"},
		// Places come twice.
		{[]int{0, 0}, false, 2, "1 1=1", ""},
		{[]int{1, 1}, false, 2, "", "5 1=5"},
		{[]int{1, 0, 2, 2}, false, 4, "1 4=3", "5 1=5"},
		{[]int{1, 0, 1}, false, 3, "1 2=1", "5 1=5"},
		{nil, true, 0, "", ""},
	} {
		replayIs(t, "three", twoNames, list, row.order, row.same, chains(row.clock, row.docs, row.more))
	}
	// What only asks may come as often as one likes.
	ask := []impl.Past{past("0 1", "0 find *: ok 0", "0 inc *: ok 0"), past("0 2")}
	replayIs(t, "asked", twoNames, ask, []int{0, 0, 1, 0, 1, 1}, true, chains(6, "", ""))
	replayIs(t, "asked", twoNames, ask, slices.Repeat([]int{0, 1}, 20), true, chains(40, "", ""))
}

// Collections that the new store does not have are no fault of Replay's.
func TestP13ReplayOfOtherNames(t *testing.T) {
	list := threePasts()
	replayIs(t, "docs alone", []string{"docs"}, list, []int{1, 0, 2}, false, storeOf(3, coll("1 3=2")))
	replayIs(t, "more alone", []string{"more"}, list, []int{1, 0, 2}, false, storeOf(3, named("more", "5 1=5")))
	replayIs(t, "others", []string{"a", "b"}, list, []int{1, 0, 2}, false, storeOf(3, named("a", ""), named("b", "")))
	replayIs(t, "one more", []string{"a", "docs", "more"}, list, []int{1, 0, 2}, true, storeOf(3, named("a", ""), coll("1 3=2"), named("more", "5 1=5")))
	none := []impl.Past{past("0 1", "0 insert docs.1=1: name", "0 find *: name", "0 inc *more: name")}
	replayIs(t, "told so", []string{"a"}, none, []int{0}, true, storeOf(1, named("a", "")))
}

// A reply that differs in anything, wherever it stands, is told, and all else is done as before.
func TestP13RepliesThatDiffer(t *testing.T) {
	right := []impl.Past{
		past("0 1", "0 insert 1=1: ok 1", "0 insert 2=2: ok 1", "0 insert 1=9: twice"),
		past("1 2"),
		past("2 3", "1 find *: ok 2 1=1 2=2", "1 inc ?1: ok 1", "1 count *: ok 2", "1 delete ?2: ok 1", "1 find ?2: ok 0"),
	}
	want := chains(3, "1 3=2", "")
	replayIs(t, "as it was told", twoNames, right, upTo(3), true, want)
	for what, spoil := range map[string]func(r *impl.Reply){
		"another code": func(r *impl.Reply) { r.Code = impl.ErrOrder - r.Code },
		"OK or none":   func(r *impl.Reply) { r.Code = map[bool]int{true: impl.ErrNone, false: impl.OK}[r.Code == impl.OK] },
		"an N more":    func(r *impl.Reply) { r.N++ }, "an N less": func(r *impl.Reply) { r.N-- }, "a great N": func(r *impl.Reply) { r.N = 1 << 40 },
		"a document more":  func(r *impl.Reply) { r.Docs = append(slices.Clone(r.Docs), thing(1, 1)) },
		"many documents":   func(r *impl.Reply) { r.Docs = copies(100, thing(1, 1)) },
		"what is no value": func(r *impl.Reply) { r.Docs = append(slices.Clone(r.Docs), impl.Value{Kind: 9, N: -1}) },
		"other documents": func(r *impl.Reply) {
			r.Docs = slices.Clone(r.Docs)
			slices.Reverse(r.Docs)
			if len(r.Docs) == 0 {
				r.Docs = []impl.Value{{}}
			}
		},
	} {
		for i, p := range right {
			for j := range p.Steps {
				list := slices.Clone(right)
				list[i].Steps = slices.Clone(p.Steps)
				spoil(&list[i].Steps[j].Reply)
				replayIs(t, fmt.Sprintf("%s at %d of %d", what, j, i), twoNames, list, upTo(3), false, want)
			}
		}
	}
	// One document less, and one that is another.
	for _, text := range []string{"ok 2 1=1", "ok 2", "ok 2 1=1 2=3", "ok 2 1=1 3=2", "ok 1 1=1", "ok 2 2=2 1=1"} {
		list := slices.Clone(right)
		list[2].Steps = slices.Clone(list[2].Steps)
		list[2].Steps[0].Reply = reply(text)
		replayIs(t, text, twoNames, list, upTo(3), false, want)
	}
}

// One that was refused its commit has no place in any order, if it saw what it should not have.
func TestP13ReplayOfRefusedOnes(t *testing.T) {
	s := talk(t, fresh(), "0 insert 1=1: ok 1", "1 begin: ok 0", "2 begin: ok 0", "1 inc ?1: ok 1", "2 inc ?1: ok 1", "1 find *: ok 1 1=2", "2 find *: ok 1 1=2", "1 commit: ok 0", "2 commit: conflict")
	list := []impl.Past{past("0 1 +1", "0 insert 1=1: ok 1"), past("1 2 =1", "1 inc ?1: ok 1", "1 find *: ok 1 1=2"), past("1 3 =1", "2 inc ?1: ok 1", "2 find *: ok 1 1=2")}
	replayIs(t, "without it", twoNames, list, []int{0, 1}, true, s)
	for _, order := range [][]int{{0, 1, 2}, {0, 2, 1}} {
		replayIs(t, "with it", twoNames, list, order, false, chains(3, "1 3=3", ""))
	}
	// Each read what the other one changed.
	talk(t, fresh(), "0 insert 1=1: ok 1", "0 insert 2=2: ok 1", "0 begin: ok 0", "1 begin: ok 0", "0 find ?1: ok 1 1=1", "1 find ?2: ok 1 2=2", "0 inc ?2: ok 1", "1 inc ?1: ok 1", "0 commit: ok 0", "1 commit: pivot")
	list = []impl.Past{past("0 1 +1", "0 insert 1=1: ok 1"), past("1 2 +2", "0 insert 2=2: ok 1"), past("2 3 ?1 ?2 =2", "0 find ?1: ok 1 1=1", "0 inc ?2: ok 1"), past("2 4 ?2 ?1 =1", "1 find ?2: ok 1 2=2", "1 inc ?1: ok 1")}
	noOrderOf(t, "both of them", donesOf(list), impl.ErrOrder)
	replayIs(t, "without it", twoNames, list, []int{0, 1, 2}, true, chains(3, "1 1=1|2 3=3", ""))
	for _, order := range [][]int{{0, 1, 2, 3}, {0, 1, 3, 2}} {
		replayIs(t, "with it", twoNames, list, order, false, chains(4, fmt.Sprintf("1 %d=2|2 %d=3", slices.Index(order, 3)+1, slices.Index(order, 2)+1), ""))
	}
}

// As many as there may be of all: each is done.
func TestP13ReplayOfMany(t *testing.T) {
	full := impl.Past{Done: done("0 1"), Steps: steps(slices.Concat([]string{"0 insert 1=0: ok 1"}, lines(19, "0 inc *: ok 1"), lines(80, "0 inc *: full"))...)}
	replayIs(t, "100 Steps", twoNames, []impl.Past{full}, []int{0}, true, chains(1, "1 1=19", ""))
	again := impl.Past{Done: done("0 1"), Steps: steps(slices.Concat(lines(20, "0 inc *: ok 1"), lines(80, "0 inc *: full"))...)}
	list := append([]impl.Past{full}, slices.Repeat([]impl.Past{again}, impl.MaxPast-1)...)
	replayIs(t, "40 of them", twoNames, list, upTo(impl.MaxPast), true, chains(40, fmt.Sprint("1 40=", 19+39*20), ""))
	replayIs(t, "the last ones first", twoNames, list, []int{0, 39, 38, 1}, true, chains(4, "1 4=79", ""))
	list[39].Steps = slices.Clone(list[39].Steps)
	list[39].Steps[99].Reply = reply("ok 1")
	replayIs(t, "the last reply of the last one", twoNames, list, upTo(impl.MaxPast), false, chains(40, fmt.Sprint("1 40=", 19+39*20), ""))
	replayIs(t, "all but that one", twoNames, list, upTo(impl.MaxPast-1), true, chains(39, fmt.Sprint("1 39=", 19+38*20), ""))
	// Documents of all three collections, all of which a commit installs.
	var fill []impl.Past
	for i, name := range []string{"a", "docs", "more"} {
		p := impl.Past{Done: done("0 1")}
		for id := range impl.TopId + 1 {
			p.Steps = append(p.Steps, steps(fmt.Sprintf("%d insert %s.%d=%d: ok 1", i, name, id, i))...)
		}
		fill = append(fill, p)
	}
	fill = append(fill, past("0 1", "0 inc *a: ok 20", "0 inc *: ok 20", "0 inc *more: ok 20"))
	s, same, code := impl.Replay(runNames, fill, upTo(4))
	if !same || code != impl.OK || s.Clock != 4 || len(s.Txns) != 0 || len(s.Done) != 0 {
		t.Errorf("Replay: %v, %d, %s", same, code, shownStore(s))
	}
	for i, c := range s.Colls {
		if n, _ := impl.VersionsOf(c); n != 20 || c.Chains[19].Versions[0] != (impl.Version{At: 4, Doc: thing(19, i+1)}) {
			t.Errorf("Replay: %s", shownColl(c))
		}
	}
}
