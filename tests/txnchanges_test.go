package tests

import (
	"fmt"
	"slices"
	"strings"
	"testing"

	"loop.example/g00380/impl"
)

// named is coll under another name.
func named(name, text string, defs ...impl.Def) impl.Coll {
	c := coll(text, defs...)
	c.Name = name
	return c
}

// wroteAre holds ChangesOf to a change of each write: befores are the numbers of the things that were
// there, - where there was none.
func wroteAre(t *testing.T, x impl.Txn, colls []impl.Coll, befores string) {
	t.Helper()
	var want []impl.Change
	for i, b := range strings.Fields(befores) {
		c := impl.Change{Write: x.Writes[i]}
		if b != "-" {
			c.Before, c.Was = thing(c.Write.Id, number(b)), true
		}
		want = append(want, c)
	}
	list, code := impl.ChangesOf(x, colls)
	if !slices.Equal(list, want) || code != impl.OK {
		t.Errorf("ChangesOf(%s): %v, %d, not %v", shownTxn(x), list, code, want)
	}
	if d := (impl.Done{Snap: 0, At: 1, Changes: list}); !impl.DoneOK(d) {
		t.Errorf("ChangesOf(%s) may not be committed", shownTxn(x))
	}
}

func TestP11ChangesWithoutWrites(t *testing.T) {
	for _, text := range []string{"0 0", "3 10000", "1 5 ?1 >2 ?more.3"} {
		for _, colls := range [][]impl.Coll{nil, {}, {coll("")}, {coll("1 2=1|5 3-")}, {named("a", "1 1=1"), coll("1 1=1"), named("more", "")}} {
			wroteAre(t, txn(text), colls, "")
		}
	}
}

func TestP11ChangesOfOneCollection(t *testing.T) {
	// 1 is changed at 6, 5 goes at 4, 9 comes at 5, 12 was gone from the beginning, 14 comes again at 8.
	c := coll("1 2=1 6=2|5 1=3 4-|9 5=4|12 1-|14 1=5 3- 8=6", def("one", "k"))
	for writes, befores := range map[string]string{
		"1=7": "2", "1-": "2", "1=2": "2", "5=7": "-", "5-": "-", "9=7": "4", "9-": "4", "12=7": "-", "12-": "-", "14=7": "6", "14-": "6", "3=7": "-", "3-": "-", "0=7": "-", "19-": "-",
		"0=1 1=1 3- 5=1 9- 12=1 14- 19=1": "- 2 - - 4 - 6 -",
	} {
		// The newest version counts, whatever the snapshot sees.
		for _, snap := range []int{0, 1, 2, 3, 4, 5, 6, 7, 8, 9, 10000} {
			for _, reads := range []string{"", " ?1 >2"} {
				wroteAre(t, txn(fmt.Sprint("2 ", snap, " ", writes, reads)), []impl.Coll{c}, befores)
			}
		}
	}
}

func TestP11ChangesOfManyCollections(t *testing.T) {
	a, docs, more := named("a", "1 1=1|2 2=2"), coll("1 3=3|2 4=4 5-"), named("more", "1 6- 7=5")
	x := txn("0 2 a.1=9 a.2- docs.1- docs.2=9 docs.3- more.1=9 more.2=9")
	for _, row := range []struct {
		colls   []impl.Coll
		befores string
	}{
		{[]impl.Coll{a, docs, more}, "1 2 3 - - 5 -"},
		{[]impl.Coll{a, docs}, "1 2 3 - - - -"},
		{[]impl.Coll{a, more}, "1 2 - - - 5 -"},
		{[]impl.Coll{docs, more}, "- - 3 - - 5 -"},
		{[]impl.Coll{a}, "1 2 - - - - -"},
		{[]impl.Coll{docs}, "- - 3 - - - -"},
		{[]impl.Coll{more}, "- - - - - 5 -"},
		{[]impl.Coll{}, "- - - - - - -"},
		{nil, "- - - - - - -"},
		// Of other names, though they begin alike.
		{[]impl.Coll{named("A", "1 1=1"), named("aa", "1 1=1"), named("doc", "1 1=1")}, "- - - - - - -"},
		{[]impl.Coll{named("docs_", "1 1=1"), named("mor", "1 1=1"), named("more_", "1 1=1")}, "- - - - - - -"},
		{[]impl.Coll{named("a", ""), named("docs", "19 1=1"), named("more", "")}, "- - - - - - -"},
	} {
		wroteAre(t, x, row.colls, row.befores)
	}
	wroteAre(t, txn("0 2 b.1=9 c.1=9 d.1-"), []impl.Coll{a, docs, more}, "- - -")
	wroteAre(t, txn("0 2 docs.1=9 more.1-"), []impl.Coll{docs, more}, "3 5")
}

// As many as may be committed, and more: ChangesOf counts nothing.
func TestP11ChangesOfManyWrites(t *testing.T) {
	var colls []impl.Coll
	for _, name := range []string{"n000", "n001", "n002"} {
		c := allChains(impl.MaxVersions)
		c.Name = name
		colls = append(colls, c)
	}
	x := impl.Txn{Snap: 3}
	for i := range 5 {
		for id := range impl.TopId + 1 {
			x.Writes = append(x.Writes, impl.Write{Coll: fmt.Sprintf("n%03d", i), Id: id, Gone: true})
		}
	}
	list, code := impl.ChangesOf(x, colls)
	if len(list) != 100 || code != impl.OK {
		t.Fatalf("ChangesOf: %d of them, %d", len(list), code)
	}
	for i, c := range list {
		if want := (impl.Change{Write: x.Writes[i]}); i >= 60 && c != want {
			t.Errorf("%d: %v", i, c)
		}
		if want := (impl.Change{Write: x.Writes[i], Was: true, Before: thing(i%20, 11)}); i < 60 && c != want {
			t.Errorf("%d: %v", i, c)
		}
	}
}

func TestP11ChangesByWrongCollections(t *testing.T) {
	a, b, c, d := named("a", "1 1=1"), named("b", ""), coll("1 2=1|5 3-"), named("z", "")
	wrong := map[string][]impl.Coll{
		"falling names": {b, a}, "falling names behind": {a, c, b}, "falling names ahead": {b, a, c}, "a name twice": {a, a}, "a name twice behind": {a, b, b}, "a name twice ahead": {a, a, b}, "a name twice, other chains": {c, coll("")},
		"four": {a, b, c, d}, "four alike": {a, a, a, a}, "MaxList": slices.Repeat([]impl.Coll{a}, impl.MaxList),
	}
	for what, x := range wrongColls() {
		wrong[what] = []impl.Coll{x}
		if x.Name == "docs" {
			wrong[what+", first"] = []impl.Coll{x, named("more", ""), d}
			wrong[what+", between"] = []impl.Coll{a, x, d}
			wrong[what+", last"] = []impl.Coll{a, b, x}
		}
	}
	for what, colls := range wrong {
		for _, text := range []string{"0 0", "1 5 ?1", "2 9 1=1 5-", "3 9 more.1=1", "4 0", "0 -1"} {
			if list, code := impl.ChangesOf(txn(text), colls); len(list) != 0 || code != impl.ErrBad {
				t.Errorf("ChangesOf by %s: %v, %d", what, list, code)
			}
		}
	}
	for _, colls := range [][]impl.Coll{{a, b, c}, {a, c, d}, {c}, {named("A", ""), a, named("aa", "")}, {named("a", ""), named("a9", ""), b}} {
		if _, code := impl.ChangesOf(txn("0 1 1=1"), colls); code != impl.OK {
			t.Errorf("ChangesOf by right collections: %d", code)
		}
	}
	for _, n := range []int{impl.MaxList + 1, 2 * impl.MaxList} {
		for _, x := range []impl.Txn{txn("0 1"), txn("2 9 1=1 5-"), {Session: 4}} {
			for _, one := range []impl.Coll{a, {}} {
				if list, code := impl.ChangesOf(x, slices.Repeat([]impl.Coll{one}, n)); len(list) != 0 || code != impl.ErrLong {
					t.Errorf("ChangesOf by %d collections: %v, %d", n, list, code)
				}
			}
		}
	}
}
