package tests

import (
	"fmt"
	"math"
	"slices"
	"strings"
	"testing"

	"loop.example/g00380/impl"
)

// noReplayOf holds Replay to a code, with nothing beside it.
func noReplayOf(t *testing.T, what string, names []string, list []impl.Past, order []int, code int) {
	t.Helper()
	if s, same, c := impl.Replay(names, list, order); !isZeroStore(s) || same || c != code {
		t.Errorf("Replay, %s: %s, %v, %d, not %d", what, shownStore(s), same, c, code)
	}
}

// pastsOf have no Steps.
func pastsOf(list []impl.Done) []impl.Past {
	var all []impl.Past
	for _, d := range list {
		all = append(all, impl.Past{Done: d})
	}
	return all
}

// pastsWith is one, of one command.
func pastsWith(c impl.Command) []impl.Past {
	return []impl.Past{{Done: done("0 1"), Steps: []impl.Step{{Command: c}}}}
}

// badPasts are lists that are not right, each for one thing.
func badPasts() map[string][]impl.Past {
	list := map[string][]impl.Past{
		"a zero one": make([]impl.Past, 1), "a wrong Done": {past("3 3")}, "a Done at no time": {past("0 10001")}, "a document twice": {past("0 1 =1 =1")},
		"41 of them": slices.Repeat([]impl.Past{past("0 1")}, impl.MaxPast+1), "MaxList of them": slices.Repeat([]impl.Past{past("0 1")}, impl.MaxList),
		"101 Steps": {{Done: done("0 1"), Steps: slices.Repeat(steps("0 find *: ok 0"), 101)}}, "beyond MaxList Steps": {{Done: done("0 1"), Steps: slices.Repeat(steps("0 find *: ok 0"), impl.MaxList+1)}},
		"a zero Step": {{Done: done("0 1"), Steps: make([]impl.Step, 1)}}, "a Session of 4": {past("0 1", "4 find *: ok 0")}, "a wrong filter": pastsWith(impl.Command{Kind: impl.CoFind, Coll: "docs"}), "a wrong name": pastsWith(impl.Command{Kind: impl.CoInsert, Coll: "9", Doc: thing(1, 1)}),
	}
	for _, c := range oneOfEach() {
		if c.Kind < impl.CoInsert || c.Kind > impl.CoCount {
			list[fmt.Sprint("the Kind ", c.Kind)] = pastsWith(c)
		}
	}
	for _, code := range []int{-1, 20} {
		list[fmt.Sprint("a reply of the code ", code)] = []impl.Past{{Done: done("0 1"), Steps: []impl.Step{{Command: command("0 find *"), Reply: impl.Reply{Code: code}}}}}
	}
	list["a reply of 101 documents"] = []impl.Past{{Done: done("0 1"), Steps: []impl.Step{{Command: command("0 find *"), Reply: impl.Reply{Docs: copies(101, thing(1, 1))}}}}}
	return list
}

func TestP13ReplayCodesInTheirOrder(t *testing.T) {
	good := pastsOf(dones("0 1|0 2"))
	noPlaces := [][]int{{-1}, {2}, {0, 1, 2}, {0, -1, 1}, {math.MaxInt}, {math.MinInt}}
	manyPlaces := [][]int{make([]int, 41), slices.Repeat([]int{1}, 42), slices.Repeat([]int{-1}, 41), slices.Repeat([]int{2}, impl.MaxList), append(make([]int, 40), 9)}
	// NewStore's codes come ahead of all others.
	for _, row := range []struct {
		names []string
		code  int
	}{
		{nil, impl.ErrMany}, {shortNames(4), impl.ErrMany}, {make([]string, impl.MaxList), impl.ErrMany}, {[]string{"9"}, impl.ErrName}, {[]string{"a", ""}, impl.ErrName}, {[]string{"a", strings.Repeat("n", impl.MaxText+1)}, impl.ErrName}, {[]string{"b", "a"}, impl.ErrOrder}, {[]string{"a", "a"}, impl.ErrOrder},
		{[]string{"b", "a", "9"}, impl.ErrOrder}, {[]string{"b", "9", "a"}, impl.ErrName},
	} {
		for _, order := range slices.Concat([][]int{nil, {0}}, noPlaces, manyPlaces) {
			noReplayOf(t, "good ones of no store", row.names, good, order, row.code)
			for what, list := range badPasts() {
				noReplayOf(t, what+" of no store", row.names, list, order, row.code)
			}
		}
	}
	// Then those of the list, ahead of the order's.
	for what, list := range badPasts() {
		for _, order := range slices.Concat([][]int{nil, {0}}, noPlaces, manyPlaces) {
			noReplayOf(t, what, twoNames, list, order, impl.ErrBad)
		}
	}
	// Then too many places, ahead of one that there is not.
	for _, order := range manyPlaces {
		noReplayOf(t, "many places", twoNames, good, order, impl.ErrMany)
		noReplayOf(t, "many places of nothing", twoNames, nil, order, impl.ErrMany)
	}
	for _, order := range noPlaces {
		noReplayOf(t, fmt.Sprint("the places ", order), twoNames, good, order, impl.ErrPlace)
		noReplayOf(t, fmt.Sprint("the places ", order, " of nothing"), twoNames, nil, order, impl.ErrPlace)
	}
}

// What is longer than any list may be is told ahead of all.
func TestP13ReplayOfLongLists(t *testing.T) {
	good := pastsOf(dones("0 1|0 2"))
	for _, n := range []int{impl.MaxList + 1, 2 * impl.MaxList} {
		names, list, order := shortNames(n), slices.Repeat(good[:1], n), make([]int, n)
		for _, all := range []struct {
			names []string
			list  []impl.Past
			order []int
		}{
			{names, good, []int{0}}, {names, good, []int{2}}, {make([]string, n), make([]impl.Past, 1), nil}, {twoNames, list, nil}, {twoNames, make([]impl.Past, n), []int{-1}}, {nil, list, nil}, {[]string{"9"}, make([]impl.Past, n), order},
			{twoNames, good, order}, {nil, good, order}, {twoNames, nil, order}, {twoNames, make([]impl.Past, 1), slices.Repeat([]int{-1}, n)}, {names, list, order},
		} {
			noReplayOf(t, fmt.Sprint(len(all.names), " names, ", len(all.list), " pasts, ", len(all.order), " places"), all.names, all.list, all.order, impl.ErrLong)
		}
	}
}

func TestP13ReplayPlaces(t *testing.T) {
	for n := range 5 {
		list := pastsOf(manyDones(n))
		for place := -3; place < 9; place++ {
			for _, order := range [][]int{{place}, {place, place}, append(upTo(n), place), append([]int{place}, upTo(n)...)} {
				if 0 <= place && place < n {
					replayIs(t, "a place", twoNames, list, order, true, chains(len(order), "", ""))
				} else {
					noReplayOf(t, fmt.Sprint(order, " of ", n), twoNames, list, order, impl.ErrPlace)
				}
			}
		}
		for _, place := range []int{1 << 32, math.MaxInt, math.MinInt, -1 << 32} {
			noReplayOf(t, fmt.Sprint(place, " of ", n), twoNames, list, []int{place}, impl.ErrPlace)
		}
	}
	list := pastsOf(manyDones(impl.MaxPast))
	replayIs(t, "40 places", twoNames, list, make([]int, 40), true, chains(40, "", ""))
	replayIs(t, "the last place", twoNames, list, slices.Repeat([]int{39}, 40), true, chains(40, "", ""))
	noReplayOf(t, "41 places", twoNames, list, make([]int, 41), impl.ErrMany)
	noReplayOf(t, "the place 40", twoNames, list, []int{39, 40}, impl.ErrPlace)
}

func TestP13ReplayOfHowMany(t *testing.T) {
	for _, n := range []int{0, 1, 39, 40, 41, 42, 100, impl.MaxList, impl.MaxList + 1} {
		list := pastsOf(manyDones(n))
		code := impl.OK
		if n > 40 {
			code = impl.ErrBad
		}
		if n > impl.MaxList {
			code = impl.ErrLong
		}
		for _, order := range [][]int{nil, upTo(min(n, 3))} {
			if code == impl.OK {
				replayIs(t, fmt.Sprint(n, " pasts"), twoNames, list, order, true, chains(len(order), "", ""))
			} else {
				noReplayOf(t, fmt.Sprint(n, " pasts"), twoNames, list, order, code)
			}
		}
	}
	for _, n := range []int{0, 1, 99, 100, 101, 102, impl.MaxList, impl.MaxList + 1} {
		p := impl.Past{Done: done("0 1"), Steps: slices.Repeat(steps("0 inc *none: name"), n)}
		if n <= 100 {
			replayIs(t, fmt.Sprint(n, " Steps"), twoNames, []impl.Past{p}, []int{0}, true, chains(1, "", ""))
		} else {
			noReplayOf(t, fmt.Sprint(n, " Steps"), twoNames, []impl.Past{p}, []int{0}, impl.ErrBad)
		}
	}
}

// Pasts need not rise, nor be in any order: that is SerialOrder's to ask.
func TestP13ReplayOfPastsThatFall(t *testing.T) {
	for _, text := range []string{"0 2|0 1", "0 1|0 1", "5 9|2 3|0 10000", "0 1 ?1 =2|0 1 ?2 =1"} {
		list := pastsOf(dones(text))
		replayIs(t, text, twoNames, list, upTo(len(list)), true, chains(len(list), "", ""))
	}
}

// Wherever in the list it stands, and whether the order has its place or not.
func TestP13ReplayOfOneWrongPast(t *testing.T) {
	for what, bad := range badPasts() {
		if len(bad) > 1 {
			continue
		}
		for place := range 3 {
			list := slices.Insert(pastsOf(dones("0 1|0 2")), place, bad[0])
			for _, order := range [][]int{nil, {place}, {(place + 1) % 3}, {0, 1, 2}} {
				noReplayOf(t, fmt.Sprintf("%s at %d", what, place), twoNames, list, order, impl.ErrBad)
			}
		}
	}
	for place := range impl.MaxPast {
		list := pastsOf(manyDones(impl.MaxPast))
		list[place].Done.At = list[place].Done.Snap
		noReplayOf(t, fmt.Sprint("a wrong Done at ", place), twoNames, list, nil, impl.ErrBad)
	}
	for place := range 100 {
		p := impl.Past{Done: done("0 1"), Steps: slices.Repeat(steps("0 find *: ok 0"), 100)}
		p.Steps[place].Command.Query.Skip = 101
		noReplayOf(t, fmt.Sprint("a wrong command at ", place), twoNames, []impl.Past{p}, nil, impl.ErrBad)
		p.Steps[place] = impl.Step{Command: command("0 find *"), Reply: impl.Reply{Code: 20}}
		noReplayOf(t, fmt.Sprint("a wrong reply at ", place), twoNames, []impl.Past{p}, nil, impl.ErrBad)
	}
}

func TestP13ReplayKinds(t *testing.T) {
	whole := wholeCommand()
	for _, kind := range []int{math.MinInt, -1, 0, 1, 2, 3, 4, 5, 6, 7, 8, 9, 10, 11, 1<<32 + 4, math.MaxInt} {
		whole.Kind = kind
		list := pastsWith(whole)
		s, _, code := impl.Replay(twoNames, list, []int{0})
		if 4 <= kind && kind <= 8 {
			if !impl.StoreOK(s) || s.Clock != 1 || code != impl.OK {
				t.Errorf("Replay of the Kind %d: %s, %d", kind, shownStore(s), code)
			}
		} else {
			noReplayOf(t, fmt.Sprint("the Kind ", kind), twoNames, list, []int{0}, impl.ErrBad)
			noReplayOf(t, fmt.Sprint("the Kind ", kind, ", not in the order"), twoNames, list, nil, impl.ErrBad)
		}
	}
}

func TestP13ReplayReplies(t *testing.T) {
	of := func(r impl.Reply) []impl.Past {
		return []impl.Past{{Done: done("0 1"), Steps: []impl.Step{{Command: command("0 find *"), Reply: r}}}}
	}
	for code := -2; code < 23; code++ {
		for _, docs := range [][]impl.Value{nil, things("1=1"), copies(100, thing(1, 1))} {
			list := of(impl.Reply{Code: code, Docs: docs})
			if 0 <= code && code <= 19 {
				replayIs(t, fmt.Sprint("the code ", code), twoNames, list, []int{0}, code == 0 && len(docs) == 0, chains(1, "", ""))
				replayIs(t, fmt.Sprint("the code ", code), twoNames, list, nil, true, chains(0, "", ""))
			} else {
				noReplayOf(t, fmt.Sprint("the code ", code), twoNames, list, []int{0}, impl.ErrBad)
			}
		}
	}
	for _, code := range []int{math.MinInt, math.MaxInt, 1 << 32, 256} {
		noReplayOf(t, fmt.Sprint("the code ", code), twoNames, of(impl.Reply{Code: code}), nil, impl.ErrBad)
	}
	for _, n := range []int{100, 101, 102, impl.MaxList, impl.MaxList + 1} {
		list := of(impl.Reply{N: n, Docs: copies(n, thing(1, 1))})
		if n <= 100 {
			replayIs(t, fmt.Sprint(n, " documents"), twoNames, list, []int{0}, false, chains(1, "", ""))
		} else {
			noReplayOf(t, fmt.Sprint(n, " documents"), twoNames, list, []int{0}, impl.ErrBad)
		}
	}
	// Of N, and of what the documents are, nothing is asked but whether it is the same.
	for _, r := range []impl.Reply{{N: -1}, {N: 1001}, {N: math.MinInt}, {N: math.MaxInt}, {Docs: make([]impl.Value, 1)}, {Docs: []impl.Value{{Kind: 9, N: -1, T: strings.Repeat("x", 400)}}}} {
		replayIs(t, shownReply(r), twoNames, of(r), []int{0}, false, chains(1, "", ""))
	}
}
