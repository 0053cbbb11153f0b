package tests

import (
	"fmt"
	"math/rand"
	"slices"
	"testing"

	"loop.example/g00380/impl"
)

// pivotFree holds NoPivot of a list to a bool, whatever its Ins and Outs tell, and whoever is open
// beside it.
func pivotFree(t *testing.T, what string, list []impl.Done, want bool) {
	t.Helper()
	s := storeOf(impl.MaxClock, coll("1 2=1 3=2|5 4-"), named("more", ""))
	for shift := range 4 {
		s.Done = slices.Clone(list)
		for i := range s.Done {
			flag := (i + shift) % 3
			s.Done[i].In, s.Done[i].Out = shift < 3 && flag == 1, shift < 3 && flag == 2
		}
		s.Txns = nil
		noPivotIs(t, what, s, want)
		noPivotIs(t, what+", with some open", withTxns(s, "0 0 ?1 1=7", "2 9 ?2 2-", "3 10000"), want)
	}
}

func TestP15NoPivotOfFew(t *testing.T) {
	for _, text := range []string{
		"", "0 1", "0 10000", "0 1 ?1", "0 1 =1", "0 1 ?1 =2", "0 1|0 2|0 3", "0 1 ?1|0 2 ?2", "0 1 =1|0 2 =2",
		// Whose reads hang on its own changes is bound to nobody.
		"0 1 ?1 =1", "0 9 ?1 ?2 =1 =2 +3", "0 1 ?1 =1|0 2 ?2 =2", "0 1 ?1 =1|0 2 ?1", "0 1 ?1 =1|0 2 =1", "0 1 ?1 =1 =2|0 2 ?2", "0 1 ?1 ?2 =1|0 2 =2",
		// One of both alone.
		"0 1 ?1|0 2 =1", "0 1 =1|0 2 ?1", "0 1 ?1 ?2|0 2 =1|0 3 =2", "0 1 =1 =2|0 2 ?1|0 3 ?2", "0 1 ?1|0 2 ?1|0 3 =1", "0 1 ?1|0 2 =1|0 3 ?2|0 4 =2",
		// Of another collection, or of another document.
		"0 1 ?1 =2|0 2 ?more.2 =more.1", "0 1 ?1|0 2 =1 ?2|0 3 =more.2", "0 1 ?1|0 2 =1 ?2|0 3 =3", "0 1 >7|0 2 =1 ?2|0 3 =2", "0 1 ?none.1|0 2 =1 ?2|0 3 =2", "0 1 ?1|0 2 ~1 ?2|0 3 =2",
	} {
		pivotFree(t, text, dones(text), true)
	}
	for _, text := range []string{
		// Two of which each reads what the other one changes.
		"0 1 ?1 =2|0 2 ?2 =1", "0 1 ?2 =1|0 2 ?1 =2", "0 1 ?1 +2|0 2 ?2 -1", "0 1 >1 =1|0 2 >1 =2", "0 1 ?more.1 =2|0 2 ?2 +more.1", "0 1 ?1 =1 =2|0 2 ?2 =2 =1", "0 1 ?1 =1|0 2 ?1 =1",
		// The one in the middle of three, in any order.
		"0 1 ?1|0 2 =1 ?2|0 3 =2", "0 1 =2|0 2 =1 ?2|0 3 ?1", "0 1 =1 ?2|0 2 ?1|0 3 =2", "0 1 =1 ?2|0 2 =2|0 3 ?1", "0 1 ?1|0 2 =2|0 3 =1 ?2", "0 1 =2|0 2 ?1|0 3 =1 ?2",
		// What goes, what was not there, and what the Write has.
		"0 1 ?1|0 2 -1 ?2|0 3 -2", "0 1 ?1|0 2 +1 ?2|0 3 +2", "0 1 >1|0 2 =1 ?2|0 3 =2", "0 1 >0|0 2 -1 ?2|0 3 +2", "0 1 ?none.1|0 2 +none.1 ?other.2|0 3 -other.2", "0 1 ?1|0 2 ?1 =1 ?2|0 3 ?2 =2",
		// With others around it.
		"0 1 ?5|0 2 ?1|0 3 =7|0 4 =1 ?2|0 5|0 6 =2", "0 1 ?1|0 2 =1|0 3 =1 ?2|0 4 ?2|0 5 =2",
	} {
		pivotFree(t, text, dones(text), false)
	}
}

// The pivot would be from 4 to 8: who was past at 4, or began at 8 or later, is not beside it.
func TestP15NoPivotOfTimes(t *testing.T) {
	type time struct {
		snap, at int
		beside   bool
	}
	times := []time{
		{0, 1, false}, {0, 3, false}, {2, 3, false}, {0, 4, false}, {3, 4, false}, {0, 5, true}, {3, 5, true}, {4, 5, true}, {4, 7, true}, {5, 6, true}, {6, 7, true}, {0, 7, true}, {0, 9, true}, {3, 9, true}, {4, 9, true},
		{5, 10, true}, {7, 9, true}, {7, 10000, true}, {8, 9, false}, {8, 10, false}, {9, 10, false}, {10, 11, false}, {8, 10000, false}, {9999, 10000, false},
	}
	pivot := func(text string) impl.Done { return done("4 8 " + text) }
	at := func(x time, text string) impl.Done { return done(fmt.Sprint(x.snap, " ", x.at, " ", text)) }
	byAt := func(a, b impl.Done) int { return a.At - b.At }
	for _, x := range times {
		// One that has both for it.
		list := []impl.Done{pivot("?1 =2"), at(x, "?2 =1")}
		slices.SortFunc(list, byAt)
		pivotFree(t, shownDones(list), list, !x.beside)
		for _, y := range times {
			if x.at == y.at {
				continue
			}
			list := []impl.Done{pivot("?1 =2"), at(x, "?2"), at(y, "=1")}
			slices.SortFunc(list, byAt)
			pivotFree(t, shownDones(list), list, !x.beside || !y.beside)
		}
	}
}

// Wherever among as many as there may be the three stand.
func TestP15NoPivotOfManyDone(t *testing.T) {
	r := rand.New(rand.NewSource(1501))
	var bare []impl.Done
	for i := range impl.MaxDone {
		bare = append(bare, done(fmt.Sprint("0 ", i+1, " ?19 =18")))
	}
	pivotFree(t, "thirty", bare, true)
	with := func(places []int, texts ...string) []impl.Done {
		list := slices.Clone(bare)
		for i, place := range places {
			list[place] = done(fmt.Sprint("0 ", place+1, " ", texts[i]))
		}
		return list
	}
	ends := [][]int{{0, 1, 2}, {29, 28, 27}, {0, 29, 15}, {29, 0, 28}, {15, 0, 29}, {16, 14, 15}}
	for range 60 {
		ends = append(ends, r.Perm(impl.MaxDone)[:3])
	}
	for _, places := range ends {
		what := fmt.Sprint("at ", places)
		pivotFree(t, what, with(places, "?1", "=1 ?2", "=2"), false)
		pivotFree(t, what, with(places[:2], "?1 =2", "=1 ?2"), false)
		pivotFree(t, what, with(places, "?1", "=1", "=1"), true)
		pivotFree(t, what, with(places, "?1", "?1", "=1"), true)
		pivotFree(t, what, with(places, "?1", "=1 ?2", "=3"), true)
	}
	pivotFree(t, "one behind the other", manyDones(impl.MaxDone), true)
}

// plainPivots says it of plain ones.
func plainPivots(list []plainDone) bool { return slices.ContainsFunc(flagged(list), isPlainPivot) }

// Any list that Certify did not see, and the same cleaned, or with one left out.
func TestP15NoPivotOfRandomDones(t *testing.T) {
	count := map[bool]int{}
	for seed := range int64(1500) {
		r := rand.New(rand.NewSource(15000 + seed))
		run := &certifyRun{r: r, ids: pick(r, []int{2, 3, 6, 20}), reach: 1 + r.Intn(9)}
		var list []plainDone
		for range r.Intn(12) {
			p := run.next()
			if len(list) > 0 && p.at <= list[len(list)-1].at {
				continue
			}
			run.whole = append(run.whole, p)
			list = append(list, p)
		}
		want := !plainPivots(list)
		count[want]++
		pivotFree(t, fmt.Sprint("the seed ", seed), plainList(list), want)
	}
	if count[true] < 300 || count[false] < 300 {
		t.Errorf("without and with a pivot: %v", count)
	}
}

// Of those that Certify lets pass nobody is one, nor of what is left of them behind a clean-up.
func TestP15NoPivotOfCertified(t *testing.T) {
	bound := 0
	for seed := range int64(60) {
		run := &certifyRun{r: rand.New(rand.NewSource(16000 + seed)), ids: 4, reach: 3 + int(seed%9), codes: map[int]int{}}
		var list []impl.Done
		for range 50 {
			if run.r.Intn(9) == 0 {
				list = run.clean(t, list)
			} else {
				list = run.certify(t, list)
			}
			s := storeOf(impl.MaxClock, coll(""))
			s.Done = list
			noPivotIs(t, "certified", s, true)
			if slices.ContainsFunc(list, func(d impl.Done) bool { return d.In }) {
				bound++
			}
		}
	}
	if bound < 500 {
		t.Errorf("%d lists had some that are bound", bound)
	}
}
