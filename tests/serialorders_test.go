package tests

import (
	"fmt"
	"slices"
	"testing"

	"loop.example/g00380/impl"
)

// orderIs holds SerialOrder to places, and to all pairs that are bound.
func orderIs(t *testing.T, list []impl.Done, want ...int) {
	t.Helper()
	got, code := impl.SerialOrder(list)
	if !slices.Equal(got, want) || code != impl.OK {
		t.Errorf("SerialOrder of %s: %v, %d, not %v", shownDones(list), got, code, want)
		return
	}
	keepsPairs(t, list, got)
}

// keepsPairs asks that each place is there once, and of each pair that EdgesOf tells the first one
// ahead of the second.
func keepsPairs(t *testing.T, list []impl.Done, order []int) {
	t.Helper()
	at := map[int]int{}
	for i, place := range order {
		at[place] = i
	}
	if len(at) != len(list) || len(order) != len(list) {
		t.Fatalf("%v has not each place of %d once", order, len(list))
	}
	// EdgesOf takes no more than MaxDone at once: each half of that with each other one.
	const half = impl.MaxDone / 2
	for from := 0; from < len(list); from += half {
		for to := from; to < len(list); to += half {
			part, places := partsOf(list, from, to, half)
			pairs, code := impl.EdgesOf(part)
			if code != impl.OK {
				t.Fatalf("EdgesOf: %d", code)
			}
			for i := 0; i < len(pairs); i += 2 {
				if a, b := places[pairs[i]], places[pairs[i+1]]; at[a] >= at[b] {
					t.Errorf("%v of %s: %d is not ahead of %d", order, shownDones(list), a, b)
				}
			}
		}
	}
}

// partsOf has n of a list from each of two places on, without flags, and where they stood.
func partsOf(list []impl.Done, from, to, n int) ([]impl.Done, []int) {
	var part []impl.Done
	var places []int
	for i, d := range list {
		if from <= i && i < from+n || to <= i && i < to+n {
			d.In, d.Out = false, false
			part, places = append(part, d), append(places, i)
		}
	}
	return part, places
}

// noOrderOf holds SerialOrder to a code, with nothing beside it.
func noOrderOf(t *testing.T, what string, list []impl.Done, code int) {
	t.Helper()
	if got, c := impl.SerialOrder(list); len(got) != 0 || c != code {
		t.Errorf("SerialOrder, %s: %v, %d, not %d", what, got, c, code)
	}
}

// upTo are the places from 0 on.
func upTo(n int) []int {
	var list []int
	for i := range n {
		list = append(list, i)
	}
	return list
}

func TestP13OrderOfFew(t *testing.T) {
	orderIs(t, nil)
	orderIs(t, []impl.Done{})
	for _, text := range []string{"0 1", "0 1 ?1", "0 1 =1", "9999 10000", "0 10000 ?1 =2", "3 9 in", "3 9 out", "3 9 in out"} {
		orderIs(t, dones(text), 0)
	}
	// Nobody comes ahead of oneself, alone or among others.
	for text, want := range map[string][]int{
		"0 1 ?1 =1": {0}, "3 9 ?1 ?2 +1 -2": {0}, "0 1 >0 +1 in out": {0}, "0 1 ?1 =1|0 2 ?2 =2": {0, 1}, "0 1 ?1 =1|0 2 ?1 ?2 =2": {1, 0}, "0 1 ?1 =1|1 2 ?1 =1|2 3 ?1 =1": {0, 1, 2},
	} {
		orderIs(t, dones(text), want...)
	}
}

func TestP13OrderOfTwo(t *testing.T) {
	for text, want := range map[string][]int{
		// Not bound: as they stand.
		"0 1|0 2": {0, 1}, "0 3 =1|2 9 =2": {0, 1}, "0 3 ?1|2 9 ?1": {0, 1}, "0 3 =1|2 9 =1": {0, 1}, "0 3 =1|2 9 ?2": {0, 1}, "0 3 =1|2 9 ?more.1": {0, 1}, "0 3 ~1|2 9 ?1": {0, 1}, "0 3 -1|2 9 >1": {0, 1},
		// One that read what an earlier one changed, while both were open.
		"0 1 =1|0 2 ?1": {1, 0}, "0 3 =1|2 9 ?1": {1, 0}, "0 3 +1|0 9 ?1": {1, 0}, "0 3 -1|0 9 ?1": {1, 0}, "0 3 +1|2 9 >1": {1, 0}, "0 3 =more.7|2 9 ?more.7": {1, 0}, "2 3 =5 =6|0 9 ?1 ?6": {1, 0},
		// One that began at the earlier one's At, or behind it, saw what that one changed.
		"0 3 =1|3 9 ?1": {0, 1}, "0 3 =1|4 9 ?1": {0, 1}, "0 3 =1|8 9 ?1": {0, 1}, "0 1|1 2": {0, 1},
		// An earlier one that read what a later one changed.
		"0 3 ?1|2 9 =1": {0, 1}, "0 3 ?1|3 9 =1": {0, 1}, "0 3 ?1 =1|3 9 ?1 =1": {0, 1},
		// What flags say binds nobody.
		"0 3 in|2 9 out": {0, 1}, "0 3 out|2 9 in": {0, 1}, "0 3 in out|2 9 in out": {0, 1}, "0 3 =1 in out|2 9 ?1 in out": {1, 0}, "0 3 =1 out|2 9 ?1 in": {1, 0},
	} {
		orderIs(t, dones(text), want...)
	}
}

// Of those that nothing which is left comes ahead of the first place is picked, each time anew.
func TestP13WhichIsPickedFirst(t *testing.T) {
	for text, want := range map[string][]int{
		// As soon as 0 is free it goes, not when its turn comes round.
		"0 1 =1|0 2 ?1|0 3": {1, 0, 2}, "0 1 =1|0 2|0 3 ?1|0 4": {1, 2, 0, 3}, "0 1 =1|0 2|0 3|0 4 ?1|0 5": {1, 2, 3, 0, 4},
		// It does not pull those ahead that it waits for.
		"0 1 =1|0 2|0 3|0 4 ?1": {1, 2, 3, 0}, "0 1|0 2 =1|0 3|0 4 ?1|0 5": {0, 2, 3, 1, 4},
		// It waits for all of them.
		"0 1 =1|0 2 ?1|0 3 ?1|0 4": {1, 2, 0, 3}, "0 1 =1 =2|0 2 ?1|0 3|0 4 ?2|0 5": {1, 2, 3, 0, 4}, "0 1 =1|0 2 =2|0 3 ?1 ?2|0 4": {2, 0, 1, 3}, "0 1 =1|0 2 =2|0 3 ?2|0 4 ?1": {2, 1, 3, 0},
		// Chains, each of which hangs on the earlier one's changes.
		"0 1 =1|0 2 ?1 =2|0 3 ?2": {2, 1, 0}, "0 1 =1|0 2 ?1 =2|0 3 ?2|0 4": {2, 1, 0, 3}, "0 1|0 2 =1|0 3 ?1 =2|0 4 ?2": {0, 3, 2, 1}, "0 1 =1|0 2 ?1 =2|0 3 ?2 =3|0 4 ?3 =4|0 5 ?4": {4, 3, 2, 1, 0},
		"0 1 =1|0 2 =2|0 3 ?1 =3|0 4 ?2 =4|0 5 ?3|0 6 ?4": {4, 2, 0, 5, 3, 1}, "0 1 =1|0 2 =2|0 3 ?2 =3|0 4 ?1 =4|0 5 ?3|0 6 ?4": {4, 2, 1, 5, 3, 0},
		// Times hold others back, too: 2 began when 0 had ended.
		"0 1 =1|0 2 ?1|1 3": {1, 0, 2}, "0 1 =1|1 2|0 3 ?1|2 4": {2, 0, 1, 3}, "0 2 =1|2 3|1 4 ?1|3 5|0 6": {2, 0, 1, 3, 4}, "0 2 =1|2 3|1 4 ?1 =5|3 5|0 6 ?5": {4, 2, 0, 1, 3},
		"0 1|1 2|2 3|3 4": {0, 1, 2, 3}, "0 1 =1|0 2|2 3|0 4 ?1|3 5": {1, 3, 0, 2, 4},
	} {
		orderIs(t, dones(text), want...)
	}
}

// chainOf are so many at once, each of which reads what the one ahead of it in the list changed.
func chainOf(n int) []impl.Done {
	var list []impl.Done
	for i := range n {
		name, last := fmt.Sprintf("c%d.%d", i/20, i%20), fmt.Sprintf("c%d.%d", (i+19)/20-1, (i+19)%20)
		text := fmt.Sprintf("0 %d =%s", i+1, name)
		if i > 0 {
			text += " ?" + last
		}
		list = append(list, done(text))
	}
	return list
}

func TestP13OrderOfChains(t *testing.T) {
	for n := range impl.MaxPast + 1 {
		want := upTo(n)
		slices.Reverse(want)
		orderIs(t, chainOf(n), want...)
	}
}

// without are the places up to n, but for one.
func without(place, n int) []int {
	return slices.DeleteFunc(upTo(n), func(i int) bool { return i == place })
}

// One that reads what each of the others changed comes ahead of them all, wherever it stands; the
// other way round it waits for all that read what it changed.
func TestP13OneAheadOfAll(t *testing.T) {
	for place := range 12 {
		var changing, reading []impl.Done
		for i := range 12 {
			changing = append(changing, done(fmt.Sprintf("0 %d =%d", i+1, i)))
			reading = append(reading, done(fmt.Sprintf("0 %d ?19", i+1)))
		}
		changing[place] = done(fmt.Sprintf("0 %d >0", place+1))
		orderIs(t, changing, append([]int{place}, without(place, 12)...)...)
		reading[place] = done(fmt.Sprintf("0 %d =19", place+1))
		orderIs(t, reading, append(without(place, 12), place)...)
	}
}

// ringOf is a chain whose first one reads what the last one changed.
func ringOf(n int) []impl.Done {
	list := chainOf(n)
	list[0].Reads = []impl.Read{readOf(fmt.Sprintf("?c%d.%d", (n-1)/20, (n-1)%20))}
	return list
}

func TestP13Rings(t *testing.T) {
	for _, text := range []string{
		"0 1 ?1 =2|0 2 ?2 =1", "0 3 ?1 =2|2 9 ?2 =1", "0 1 >1 =2|0 2 >1 =1", "0 1 ?1 =2 out|0 2 ?2 =1 in", "0 1 ?more.1 =1|0 2 ?1 =more.1",
		"0 1 ?1 =2|0 2 ?2 =3|0 3 ?3 =1", "0 1 =1 ?2|0 2 =3 ?1|0 3 =2 ?3",
		// Others are free, ahead of them, between and behind: there is no order all the same.
		"0 1|0 2 ?1 =2|0 3 ?2 =1", "0 1 ?1 =2|0 2|0 3 ?2 =1", "0 1 ?1 =2|0 2 ?2 =1|0 3", "0 1 =9|0 2 ?1 =2 ?9|0 3 ?2 =1|0 4",
		// With a time between two of them: 1 began when 0 had ended.
		"0 1 =1|1 3 ?2|0 4 ?1 =2", "0 2 =1|2 3|2 4 ?5|0 9 ?1 =5",
		// All that a ring holds back wait with it.
		"0 1 ?1 =2|0 2 ?2 =1|2 3|3 4",
	} {
		noOrderOf(t, text, dones(text), impl.ErrOrder)
	}
	// The same without one of the edges.
	for text, want := range map[string][]int{
		"0 1 ?1 =2|0 2 =1": {0, 1}, "0 1 =2|0 2 ?2 =1": {1, 0}, "0 1 ?1 =2|1 2 ?2 =1": {0, 1}, "0 1 ?1 =2|0 2 ?2 =3|0 3 ?4 =1": {1, 0, 2}, "0 1 =1|1 3 ?2|0 4 =2": {0, 1, 2}, "0 1 =1|1 3|0 4 ?1 =2": {2, 0, 1},
	} {
		orderIs(t, dones(text), want...)
	}
	for n := 2; n <= impl.MaxPast; n++ {
		list := ringOf(n)
		noOrderOf(t, fmt.Sprint("a ring of ", n), list, impl.ErrOrder)
		// Cut open at a place it is a chain, that begins with who read what nobody changes now.
		for _, cut := range []int{0, 1, n / 2, n - 1} {
			open := slices.Clone(list)
			open[cut].Reads = nil
			got, code := impl.SerialOrder(open)
			if code != impl.OK || len(got) != n || got[n-1] != cut {
				t.Errorf("SerialOrder of a ring of %d cut at %d: %v, %d", n, cut, got, code)
				continue
			}
			keepsPairs(t, open, got)
		}
	}
}

func TestP13OrderOfMany(t *testing.T) {
	if impl.MaxPast != 40 {
		t.Errorf("MaxPast %d", impl.MaxPast)
	}
	beside := func(n int) []impl.Done {
		var list []impl.Done
		for i := range n {
			list = append(list, done(fmt.Sprintf("0 %d ?8 ?more.9", i+1)))
		}
		return list
	}
	for _, n := range []int{1, 2, 29, 30, 31, 39, 40} {
		orderIs(t, manyDones(n), upTo(n)...)
		orderIs(t, beside(n), upTo(n)...)
		// The first one waits for the last one.
		list := beside(n)
		list[0].Changes, list[n-1].Reads = changesOf("=5"), append(list[n-1].Reads, readOf("?5"))
		orderIs(t, list, append(upTo(n)[1:], 0)...)
	}
	for _, n := range []int{41, 42, 100, impl.MaxList - 1, impl.MaxList} {
		noOrderOf(t, fmt.Sprint(n, " of them"), manyDones(n), impl.ErrBad)
		noOrderOf(t, fmt.Sprint(n, " zero ones"), make([]impl.Done, n), impl.ErrBad)
	}
	for _, n := range []int{impl.MaxList + 1, impl.MaxList + 2, 2 * impl.MaxList} {
		noOrderOf(t, fmt.Sprint(n, " of them"), manyDones(n), impl.ErrLong)
		noOrderOf(t, fmt.Sprint(n, " zero ones"), make([]impl.Done, n), impl.ErrLong)
	}
	noOrderOf(t, "a ring and one too many", append(ringOf(40), done("0 41")), impl.ErrBad)
}

func TestP13OrderOfWrongLists(t *testing.T) {
	for _, text := range []string{"0 4|0 4", "0 4|0 3", "0 2|0 4|0 3", "0 4|0 2|0 6", "0 2|0 4|0 4", "0 2|0 2|0 4", "0 9|0 8|0 7", "0 10000|0 1", "4 5|0 4", "3 3", "4 3", "-1 3", "0 0", "0 10001", "0 1 =1 =1", "0 1 +20"} {
		noOrderOf(t, text, dones(text), impl.ErrBad)
		// Whatever else there is to tell.
		list := append(dones("0 1 ?1 =2|0 2 ?2 =1"), dones(text)...)
		noOrderOf(t, "a ring and "+text, list, impl.ErrBad)
	}
	for place := range impl.MaxPast {
		list := manyDones(impl.MaxPast)
		list[place].Changes = changesOf("=9 -9")
		noOrderOf(t, fmt.Sprint("a document twice at ", place), list, impl.ErrBad)
		list = ringOf(impl.MaxPast)
		list[place].Reads[0].Coll = "9"
		noOrderOf(t, fmt.Sprint("a wrong read at ", place), list, impl.ErrBad)
		for _, at := range []int{place, place - 1, 1, 0} {
			list = manyDones(impl.MaxPast)
			list[place].Snap, list[place].At = 0, at
			if place > 0 {
				noOrderOf(t, fmt.Sprint("the At of ", place, " is ", at), list, impl.ErrBad)
			}
		}
	}
	// Those that were ever certified may have flags that no list of chapter 10 has.
	list := manyDones(impl.MaxPast)
	for i := range list {
		list[i].In, list[i].Out = true, true
	}
	orderIs(t, list, upTo(impl.MaxPast)...)
}

// The greatest one that there may be.
func TestP13OrderOfFullOnes(t *testing.T) {
	var list []impl.Done
	for i := range impl.MaxPast {
		d := impl.Done{Snap: 0, At: i + 1, Changes: manyChanges(60)}
		for j := range impl.MaxReads {
			d.Reads = append(d.Reads, readOf(fmt.Sprint(">c0.", 2+j)))
		}
		list = append(list, d)
	}
	orderIs(t, list, upTo(impl.MaxPast)...)
	// The last of all reads is of the last of all changes, which only those ahead of 7 have now.
	list[7].Reads[19] = readOf("?c2.18")
	for i := 8; i < impl.MaxPast; i++ {
		list[i].Changes = list[i].Changes[:58]
	}
	orderIs(t, list, append([]int{7}, without(7, impl.MaxPast)...)...)
	list[39].Reads[0] = readOf("?c2.18")
	list[7].Changes = nil
	orderIs(t, list, append(upTo(impl.MaxPast)[7:], upTo(7)...)...)
}
