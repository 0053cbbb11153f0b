package tests

import (
	"math"
	"slices"
	"testing"

	"loop.example/g00380/impl"
)

// vacuumIs asks for a vacuum, and that no snapshot from oldest on feels it.
func vacuumIs(t *testing.T, c impl.Coll, oldest int, want impl.Coll) {
	t.Helper()
	left, code := impl.Vacuum(c, oldest)
	if !sameColl(left, want) || code != impl.OK || !impl.CollOK(left) {
		t.Errorf("Vacuum(%s, %d) = %s, %d, not %s", shownColl(c), oldest, shownColl(left), code, shownColl(want))
	}
	feelsNothing(t, c, left, oldest)
	again, code := impl.Vacuum(left, oldest)
	if !sameColl(again, want) || code != impl.OK {
		t.Errorf("Vacuum(%s, %d), once more: %s, %d", shownColl(c), oldest, shownColl(again), code)
	}
}

func feelsNothing(t *testing.T, c, left impl.Coll, oldest int) {
	t.Helper()
	times := []int{oldest, 9999, 10000, 10001, math.MaxInt}
	for snap := max(oldest, 0); snap < 20; snap++ {
		times = append(times, snap)
	}
	for _, snap := range times {
		if snap < oldest {
			continue
		}
		before, _ := impl.SeenAt(c, snap)
		after, code := impl.SeenAt(left, snap)
		if !slices.Equal(before, after) || code != impl.OK {
			t.Errorf("a vacuum at %d of %s: at %d %s is seen, not %s", oldest, shownColl(c), snap, seen(t, after), seen(t, before))
		}
	}
}

func TestP9VacuumOfOneChain(t *testing.T) {
	for text, rows := range map[string]map[int]string{
		"5 3=1":               {2: "5 3=1", 3: "5 3=1", 4: "5 3=1", 10000: "5 3=1"},
		"5 3-":                {2: "5 3-", 3: "", 4: "", 10000: ""},
		"5 3=1 7=2":           {2: "5 3=1 7=2", 3: "5 3=1 7=2", 6: "5 3=1 7=2", 7: "5 7=2", 8: "5 7=2", 10000: "5 7=2"},
		"5 3=1 7-":            {2: "5 3=1 7-", 3: "5 3=1 7-", 6: "5 3=1 7-", 7: "", 8: ""},
		"5 3- 7=2":            {2: "5 3- 7=2", 3: "5 7=2", 6: "5 7=2", 7: "5 7=2", 8: "5 7=2"},
		"5 3- 7-":             {2: "5 3- 7-", 3: "5 7-", 6: "5 7-", 7: "", 8: ""},
		"5 3=1 7- 9=2":        {3: "5 3=1 7- 9=2", 6: "5 3=1 7- 9=2", 7: "5 9=2", 8: "5 9=2", 9: "5 9=2", 10: "5 9=2"},
		"5 3=1 7- 9-":         {6: "5 3=1 7- 9-", 7: "5 9-", 8: "5 9-", 9: "", 10: ""},
		"5 3- 7=1 9-":         {2: "5 3- 7=1 9-", 3: "5 7=1 9-", 7: "5 7=1 9-", 8: "5 7=1 9-", 9: "", 10: ""},
		"5 1=1 2=2 3=3 4=4":   {0: "5 1=1 2=2 3=3 4=4", 1: "5 1=1 2=2 3=3 4=4", 2: "5 2=2 3=3 4=4", 3: "5 3=3 4=4", 4: "5 4=4", 5: "5 4=4"},
		"5 1- 2=2 3- 4- 5=5":  {0: "5 1- 2=2 3- 4- 5=5", 1: "5 2=2 3- 4- 5=5", 2: "5 2=2 3- 4- 5=5", 3: "5 4- 5=5", 4: "5 5=5", 5: "5 5=5"},
		"5 1=7 2=7 3=7":       {1: "5 1=7 2=7 3=7", 2: "5 2=7 3=7", 3: "5 3=7"},
		"5 9999=1 10000-":     {9998: "5 9999=1 10000-", 9999: "5 9999=1 10000-", 10000: ""},
		"0 1=1 9999- 10000=2": {9998: "0 1=1 9999- 10000=2", 9999: "0 10000=2", 10000: "0 10000=2"},
	} {
		for oldest, want := range rows {
			vacuumIs(t, coll(text), oldest, coll(want))
		}
	}
}

// A chain that goes whole leaves the others where they were, and the definitions stay.
func TestP9VacuumOfManyChains(t *testing.T) {
	const text = "0 3- 5=1|2 1=1 2-|5 4=1 6=2|7 2- 4-|9 9=1|19 1=1 3=2 5-"
	rows := map[int]string{
		0: text,
		1: text,
		2: "0 3- 5=1|5 4=1 6=2|7 4-|9 9=1|19 1=1 3=2 5-",
		3: "0 5=1|5 4=1 6=2|7 4-|9 9=1|19 3=2 5-",
		4: "0 5=1|5 4=1 6=2|9 9=1|19 3=2 5-",
		5: "0 5=1|5 4=1 6=2|9 9=1",
		6: "0 5=1|5 6=2|9 9=1",
		8: "0 5=1|5 6=2|9 9=1",
		9: "0 5=1|5 6=2|9 9=1",
	}
	for oldest, want := range rows {
		for _, defs := range [][]impl.Def{nil, {def("one", "k")}, {def("two", "-k", "id"), def("one", "a"), def("three", "a.b")}} {
			vacuumIs(t, coll(text, defs...), oldest, coll(want, defs...))
		}
	}
	vacuumIs(t, coll("1 1-|2 2-|3 1=1 3-", def("one", "k")), 3, coll("", def("one", "k")))
	vacuumIs(t, coll("1 1-|2 2=1|3 1=1 3-", def("one", "k")), 3, coll("2 2=1", def("one", "k")))
	vacuumIs(t, coll(""), 5, coll(""))
	d, code := impl.Vacuum(impl.Coll{Name: "more", Chains: coll("1 1- 2=2").Chains}, 1)
	if !sameColl(d, impl.Coll{Name: "more", Chains: coll("1 2=2").Chains}) || code != impl.OK {
		t.Errorf("Vacuum: %s, %d", shownColl(d), code)
	}
}

// Any number is a time to vacuum at.
func TestP9VacuumAtAnyTime(t *testing.T) {
	const text = "0 1=1 2=2|5 1=1 10000-|9 1-|19 10000=1"
	for _, oldest := range []int{math.MinInt, -10001, -1, 0} {
		vacuumIs(t, coll(text), oldest, coll(text))
	}
	for _, oldest := range []int{10000, 10001, 1 << 32, 1<<32 + 1, math.MaxInt} {
		vacuumIs(t, coll(text), oldest, coll("0 2=2|19 10000=1"))
	}
	for _, oldest := range manyTimes {
		vacuumIs(t, coll("", def("one", "k")), oldest, coll("", def("one", "k")))
	}
}

func TestP9VacuumOfAllThatMayBe(t *testing.T) {
	c := allChains(impl.MaxVersions)
	for oldest := range 60 {
		want := impl.Coll{Name: "docs"}
		for _, x := range c.Chains {
			// The version in the place n stands at 3n + id + 1.
			n := min(max(0, (oldest-x.Id-1)/3), impl.MaxVersions-1)
			want.Chains = append(want.Chains, impl.Chain{Id: x.Id, Versions: x.Versions[n:]})
		}
		vacuumIs(t, c, oldest, want)
	}
}

// What a vacuum leaves may be written behind, and vacuumed again: at an earlier time nothing more goes.
func TestP9VacuumThenInstall(t *testing.T) {
	c := coll("1 1=1 3-|5 2=1 4=2 6=3|9 1- 7=1")
	left, _ := impl.Vacuum(c, 5)
	if !sameColl(left, coll("5 4=2 6=3|9 7=1")) {
		t.Fatalf("Vacuum: %s", shownColl(left))
	}
	installIs(t, left, 6, put(5, 7), impl.ErrOrder)
	installIs(t, left, 7, put(9, 7), impl.ErrOrder)
	// Of a chain that went whole no time is kept.
	installIs(t, left, 2, put(1, 7), impl.OK)
	more := installIs(t, left, 8, put(1, 7), impl.OK)
	more = installIs(t, more, 9, gone(5), impl.OK)
	for oldest, want := range map[int]string{
		0: "1 8=7|5 4=2 6=3 9-|9 7=1", 3: "1 8=7|5 4=2 6=3 9-|9 7=1", 5: "1 8=7|5 4=2 6=3 9-|9 7=1",
		6: "1 8=7|5 6=3 9-|9 7=1", 8: "1 8=7|5 6=3 9-|9 7=1", 9: "1 8=7|9 7=1",
	} {
		vacuumIs(t, more, oldest, coll(want))
	}
}
