package tests

import (
	"fmt"
	"math"
	"strings"
	"testing"

	"loop.example/g00380/impl"
)

// seen tells of each document its id and its number, as 5=1, in the order in which they came.
func seen(t *testing.T, docs []impl.Value) string {
	t.Helper()
	var list []string
	for _, doc := range docs {
		id, code := impl.IdOf(doc)
		k, c := impl.FirstPath(doc, "k")
		if code != impl.OK || c != impl.OK || doc != thing(id, k.N) {
			t.Errorf("%v is nothing that was installed", doc)
		}
		list = append(list, fmt.Sprintf("%d=%d", id, k.N))
	}
	return strings.Join(list, " ")
}

func seenIs(t *testing.T, c impl.Coll, snap int, want string) {
	t.Helper()
	docs, code := impl.SeenAt(c, snap)
	if s := seen(t, docs); s != want || code != impl.OK {
		t.Errorf("SeenAt(%s, %d) = %q, %d, not %q", shownColl(c), snap, s, code, want)
	}
}

func TestP9SeenOfOneChain(t *testing.T) {
	for text, rows := range map[string]map[int]string{
		"5 3=1":                    {1: "", 2: "", 3: "5=1", 4: "5=1", 10000: "5=1"},
		"5 3-":                     {2: "", 3: "", 4: "", 10000: ""},
		"5 1=1":                    {0: "", 1: "5=1", 2: "5=1"},
		"5 10000=1":                {1: "", 9999: "", 10000: "5=1"},
		"5 3=1 7=2":                {2: "", 3: "5=1", 6: "5=1", 7: "5=2", 8: "5=2", 10000: "5=2"},
		"5 3=1 4=2":                {2: "", 3: "5=1", 4: "5=2", 5: "5=2"},
		"5 3=1 7-":                 {2: "", 3: "5=1", 6: "5=1", 7: "", 8: "", 10000: ""},
		"5 3- 7=2":                 {2: "", 3: "", 6: "", 7: "5=2", 8: "5=2"},
		"5 3=1 7- 9=2":             {2: "", 3: "5=1", 6: "5=1", 7: "", 8: "", 9: "5=2", 10: "5=2"},
		"5 3=1 7- 8- 9=1 11-":      {3: "5=1", 6: "5=1", 7: "", 8: "", 9: "5=1", 10: "5=1", 11: "", 12: ""},
		"5 3=1 7=1 8=1":            {2: "", 3: "5=1", 7: "5=1", 8: "5=1", 9: "5=1"},
		"0 1=9 2=8 3=7 4=6 10000-": {0: "", 1: "0=9", 2: "0=8", 3: "0=7", 4: "0=6", 9999: "0=6", 10000: ""},
	} {
		for snap, want := range rows {
			seenIs(t, coll(text), snap, want)
			seenIs(t, coll(text, def("one", "k"), def("two", "-id")), snap, want)
		}
	}
}

// A snapshot is any number: none is out of bounds, the chapter has no word on that.
func TestP9SeenAtAnyTime(t *testing.T) {
	c := coll("0 1=1 10000=2|7 1=3 10000-|19 9999=4")
	for _, snap := range []int{math.MinInt, -10001, -1, 0} {
		seenIs(t, c, snap, "")
	}
	seenIs(t, c, 1, "0=1 7=3")
	seenIs(t, c, 9999, "0=1 7=3 19=4")
	for _, snap := range []int{10000, 10001, 1 << 32, 1<<32 + 1, math.MaxInt} {
		seenIs(t, c, snap, "0=2 19=4")
	}
	for _, snap := range manyTimes {
		seenIs(t, coll(""), snap, "")
	}
}

// Documents come by their ids, whenever they were installed.
func TestP9SeenByIds(t *testing.T) {
	c := coll("0 9=1|2 5=2 7=3|3 1-|7 3=4 6-|11 2=5 8=6|19 1=7")
	for snap, want := range map[int]string{
		0: "", 1: "19=7", 2: "11=5 19=7", 3: "7=4 11=5 19=7", 4: "7=4 11=5 19=7", 5: "2=2 7=4 11=5 19=7", 6: "2=2 11=5 19=7",
		7: "2=3 11=5 19=7", 8: "2=3 11=6 19=7", 9: "0=1 2=3 11=6 19=7", 10000: "0=1 2=3 11=6 19=7",
	} {
		seenIs(t, c, snap, want)
	}
	every := allChains(impl.MaxVersions)
	for snap := range 80 {
		var want []string
		for id := range impl.TopId + 1 {
			if snap > id {
				want = append(want, fmt.Sprintf("%d=%d", id, min((snap-id-1)/3, impl.MaxVersions-1)))
			}
		}
		seenIs(t, every, snap, strings.Join(want, " "))
	}
}

// Documents are seen as they were installed, whatever fields they have.
func TestP9SeenWhole(t *testing.T) {
	doc := record("a", many(num(1), record("id", num(9))), "id", num(4), "z", word(strings.Repeat("x", 200))).value()
	c := impl.Coll{Name: "docs", Chains: []impl.Chain{{Id: 4, Versions: []impl.Version{{At: 2, Doc: doc}}}}}
	if docs, code := impl.SeenAt(c, 2); len(docs) != 1 || docs[0] != doc || code != impl.OK {
		t.Errorf("SeenAt: %v, %d", docs, code)
	}
	if v, code := impl.LastAt(c, 4); v != (impl.Version{At: 2, Doc: doc}) || code != impl.OK {
		t.Errorf("LastAt: %v, %d", v, code)
	}
}

func TestP9LastAt(t *testing.T) {
	for _, defs := range [][]impl.Def{nil, {def("one", "k")}} {
		c := coll("0 9=1|2 5=2 7=3|3 1-|7 3=4 6-|11 2- 8=6|19 1=7 2=7 10000=7", defs...)
		for id, want := range map[int]string{0: "9=1", 2: "7=3", 3: "1-", 7: "6-", 11: "8=6", 19: "10000=7"} {
			if v, code := impl.LastAt(c, id); v != version(id, want) || code != impl.OK {
				t.Errorf("LastAt(%d) = %v, %d, not %s", id, v, code, want)
			}
		}
		for _, id := range []int{1, 4, 5, 6, 8, 10, 12, 18, -1, -19, 20, 21, 99, 100, 1 << 32, 1<<32 + 7, math.MinInt, math.MaxInt} {
			if v, code := impl.LastAt(c, id); v != (impl.Version{}) || code != impl.ErrNone {
				t.Errorf("LastAt(%d) = %v, %d", id, v, code)
			}
			if v, code := impl.LastAt(coll("", defs...), id); v != (impl.Version{}) || code != impl.ErrNone {
				t.Errorf("LastAt(%d) of no chain: %v, %d", id, v, code)
			}
		}
	}
	every := allChains(impl.MaxVersions)
	for id := range impl.TopId + 1 {
		if v, code := impl.LastAt(every, id); v != (impl.Version{At: 34 + id, Doc: thing(id, 11)}) || code != impl.OK {
			t.Errorf("LastAt(%d) = %v, %d", id, v, code)
		}
	}
}

func versionsAre(t *testing.T, c impl.Coll, want int) {
	t.Helper()
	if n, code := impl.VersionsOf(c); n != want || code != impl.OK {
		t.Errorf("VersionsOf(%s) = %d, %d, not %d", shownColl(c), n, code, want)
	}
}

func TestP9VersionsOf(t *testing.T) {
	for text, want := range map[string]int{
		"": 0, "5 1=1": 1, "5 1-": 1, "5 1=1 2- 3=3": 3, "1 1=1|5 1=1": 2, "0 1- 2-|3 1=1|7 4=1 5=2 6- 7=3|19 1-": 8,
	} {
		versionsAre(t, coll(text), want)
		versionsAre(t, coll(text, def("one", "a"), def("two", "a")), want)
	}
	versionsAre(t, allChains(1), 20)
	versionsAre(t, allChains(impl.MaxVersions), 240)
	// Behind installs and vacuums.
	c := coll("")
	for i, w := range []impl.Write{put(5, 1), put(1, 1), put(5, 2), gone(1), gone(9), put(5, 3)} {
		c = installIs(t, c, i+1, w, impl.OK)
		versionsAre(t, c, i+1)
	}
	for oldest, want := range map[int]int{0: 6, 1: 6, 2: 6, 3: 5, 4: 3, 5: 2, 6: 1, 7: 1} {
		left, _ := impl.Vacuum(c, oldest)
		versionsAre(t, left, want)
	}
	// An install that isn't done adds none.
	d, _ := impl.Install(c, 6, put(5, 4))
	versionsAre(t, d, 6)
}
