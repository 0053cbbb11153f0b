package tests

import (
	"fmt"
	"math"
	"slices"
	"strings"
	"testing"

	"loop.example/g00380/impl"
)

// collWith is c with one version more, in its own words: the chain's old ones, and then it.
func collWith(c impl.Coll, at int, w impl.Write) impl.Coll {
	more := impl.Coll{Name: c.Name, Defs: c.Defs}
	x := impl.Chain{Id: w.Id}
	for _, old := range c.Chains {
		if old.Id == w.Id {
			x.Versions = slices.Clone(old.Versions)
		} else {
			more.Chains = append(more.Chains, old)
		}
	}
	x.Versions = append(x.Versions, impl.Version{At: at, Gone: w.Gone, Doc: w.Doc})
	more.Chains = append(more.Chains, x)
	slices.SortFunc(more.Chains, func(a, b impl.Chain) int { return a.Id - b.Id })
	return more
}

// installIs asks for one write: as it was with ErrOrder and ErrFull, zero with another code.
func installIs(t *testing.T, c impl.Coll, at int, w impl.Write, code int) impl.Coll {
	t.Helper()
	want := impl.Coll{}
	switch code {
	case impl.OK:
		want = collWith(c, at, w)
	case impl.ErrOrder, impl.ErrFull:
		want = c
	}
	d, got := impl.Install(c, at, w)
	if !sameColl(d, want) || got != code {
		t.Errorf("Install(%s, %d, %d, Gone %v) = %s, %d, not %s, %d", shownColl(c), at, w.Id, w.Gone, shownColl(d), got, shownColl(want), code)
	}
	if code == impl.OK && !impl.CollOK(d) {
		t.Errorf("Install(%s, %d, %d) is not right", shownColl(c), at, w.Id)
	}
	return d
}

// Both kinds of writes of an id.
func writesOf(id int) []impl.Write { return []impl.Write{put(id, 7), gone(id)} }

func TestP9InstallWithoutTheChain(t *testing.T) {
	for _, text := range []string{"", "5 3=1", "5 3-", "3 4=1|5 3=1 9-", "0 1=1|19 1=1", "4 7=1|6 1=1|8 10000=2"} {
		for _, defs := range [][]impl.Def{nil, {def("one", "k")}, {def("one", "k"), def("two", "-a", "b"), def("three", "id")}} {
			c := coll(text, defs...)
			for id := range impl.TopId + 1 {
				if _, code := impl.LastAt(c, id); code != impl.ErrNone {
					continue
				}
				// What times other chains have is nothing to this one.
				for _, at := range []int{1, 2, 3, 9, 9999, 10000} {
					for _, w := range writesOf(id) {
						installIs(t, c, at, w, impl.OK)
					}
				}
			}
		}
	}
	for text, want := range map[string]string{
		"": "5 2=7", "1 3=1": "1 3=1|5 2=7", "8 3=1": "5 2=7|8 3=1", "1 3=1|8 1-": "1 3=1|5 2=7|8 1-",
	} {
		if d, code := impl.Install(coll(text), 2, put(5, 7)); !sameColl(d, coll(want)) || code != impl.OK {
			t.Errorf("Install into %q: %s, %d", text, shownColl(d), code)
		}
	}
	if d, code := impl.Install(coll("1 3=1"), 2, gone(0)); !sameColl(d, coll("0 2-|1 3=1")) || code != impl.OK {
		t.Errorf("Install of what was never there: %s, %d", shownColl(d), code)
	}
}

func TestP9InstallIntoTheChain(t *testing.T) {
	for _, text := range []string{"5 3=1", "5 3-", "5 1=1 3=1", "5 1- 2=2 3-", "1 9=1|5 3=1", "5 3=1|8 9=1", "0 1=1|5 2- 3=3|19 10000=1"} {
		for _, defs := range [][]impl.Def{nil, {def("one", "k"), def("two", "-a", "b")}} {
			c := coll(text, defs...)
			for _, w := range writesOf(5) {
				for _, at := range []int{4, 5, 9, 9999, 10000} {
					installIs(t, c, at, w, impl.OK)
				}
				for _, at := range []int{1, 2, 3} {
					installIs(t, c, at, w, impl.ErrOrder)
				}
			}
		}
	}
	c := coll("5 10000=1")
	for _, w := range writesOf(5) {
		for _, at := range []int{1, 9999, 10000} {
			installIs(t, c, at, w, impl.ErrOrder)
		}
		installIs(t, coll("5 9999=1"), 10000, w, impl.OK)
	}
	d, code := impl.Install(coll("1 3=1|5 2=2|8 1-"), 4, put(5, 7))
	if !sameColl(d, coll("1 3=1|5 2=2 4=7|8 1-")) || code != impl.OK {
		t.Errorf("Install: %s, %d", shownColl(d), code)
	}
	// The same document may be installed again, and what is gone may go again.
	c = coll("5 2=7|8 1-")
	installIs(t, c, 3, put(5, 7), impl.OK)
	installIs(t, c, 3, gone(8), impl.OK)
}

func TestP9InstallIntoAFullChain(t *testing.T) {
	full := allChains(impl.MaxVersions)
	for id := range impl.TopId + 1 {
		newest := 34 + id
		for _, w := range writesOf(id) {
			for _, at := range []int{newest + 1, newest + 2, 9999, 10000} {
				installIs(t, full, at, w, impl.ErrFull)
			}
			// Not in order, and without room: the order is looked at first.
			for _, at := range []int{1, newest - 1, newest} {
				installIs(t, full, at, w, impl.ErrOrder)
			}
			for _, at := range []int{0, -1, 10001} {
				installIs(t, full, at, w, impl.ErrRange)
			}
		}
	}
	almost := allChains(impl.MaxVersions - 1)
	for id := range impl.TopId + 1 {
		for _, w := range writesOf(id) {
			d := installIs(t, almost, 100, w, impl.OK)
			installIs(t, d, 101, w, impl.ErrFull)
			installIs(t, d, 100, w, impl.ErrOrder)
			// The other chains have room still.
			installIs(t, d, 60, put((id+1)%20, 3), impl.OK)
		}
	}
	// A vacuum makes room.
	room, _ := impl.Vacuum(full, 40)
	installIs(t, room, 100, put(0, 1), impl.OK)
	installIs(t, room, 100, gone(19), impl.OK)
}

func TestP9InstallTimes(t *testing.T) {
	for _, text := range []string{"", "5 3=1", "5 10000-", "1 1=1|9 2=1"} {
		for _, at := range []int{0, -1, -2, -10000, 10001, 10002, 1 << 32, 1<<32 + 7, math.MinInt, math.MaxInt} {
			for _, w := range append(writesOf(5), writesOf(0)...) {
				installIs(t, coll(text, def("one", "k")), at, w, impl.ErrRange)
			}
		}
		for _, at := range []int{1, 2, 9999, 10000} {
			installIs(t, coll(text, def("one", "k")), at, put(7, 1), impl.OK)
		}
	}
}

// wrongWrite holds Install to ErrBad, whatever the time is and whatever the chain has.
func wrongWrite(t *testing.T, what string, w impl.Write) {
	t.Helper()
	for _, c := range []impl.Coll{coll(""), coll("5 3=1"), coll("1 1=1|5 3-|9 10000=1", def("one", "k")), allChains(impl.MaxVersions)} {
		for _, at := range []int{4, 3, 100, 0, 10001, math.MinInt} {
			if d, code := impl.Install(c, at, w); !isZeroColl(d) || code != impl.ErrBad {
				t.Errorf("Install at %d, %s: %s, %d", at, what, shownColl(d), code)
			}
		}
	}
}

func TestP9InstallOfAWrongWrite(t *testing.T) {
	wrongWrite(t, "zero", impl.Write{})
	for _, w := range writesOf(5) {
		for _, name := range append(wrongNames(), strings.Repeat("n", impl.MaxText+1)) {
			w.Coll = name
			wrongWrite(t, fmt.Sprintf("the name %.20q", name), w)
		}
		// These are right, but not the collection's.
		for _, name := range []string{"more", "doc", "docs_", "Docs", "DOCS", strings.Repeat("n", 12)} {
			w.Coll = name
			wrongWrite(t, "of "+name, w)
		}
	}
	for _, id := range []int{-1, -5, 20, 21, 99, 100, 1 << 32, 1<<32 + 5, math.MinInt, math.MaxInt} {
		wrongWrite(t, fmt.Sprint("Gone of the Id ", id), gone(id))
		wrongWrite(t, fmt.Sprint("the Id ", id), impl.Write{Coll: "docs", Id: id, Doc: thing(5, 1)})
		if id >= 0 && id <= impl.MaxId {
			wrongWrite(t, fmt.Sprint("the Id ", id, " with its document"), put(id, 1))
		}
	}
	for what, doc := range wrongDocuments() {
		wrongWrite(t, what, impl.Write{Coll: "docs", Id: 5, Doc: doc})
		if doc != (impl.Value{}) {
			wrongWrite(t, "Gone with "+what, impl.Write{Coll: "docs", Id: 5, Gone: true, Doc: doc})
		}
	}
	wrongWrite(t, "no document", impl.Write{Coll: "docs", Id: 5})
	wrongWrite(t, "Gone with its document", impl.Write{Coll: "docs", Id: 5, Gone: true, Doc: thing(5, 1)})
	wrongWrite(t, "Gone with a number", impl.Write{Coll: "docs", Id: 5, Gone: true, Doc: impl.Value{N: 1}})
	wrongWrite(t, "Gone with a text", impl.Write{Coll: "docs", Id: 5, Gone: true, Doc: impl.Value{T: "x"}})
}

// Both names must be the same one, whichever it is.
func TestP9InstallIntoItsCollection(t *testing.T) {
	for _, name := range rightNames() {
		c, _ := impl.NewColl(name)
		for _, w := range writesOf(0) {
			w.Coll = name
			installIs(t, c, 1, w, impl.OK)
			w.Coll = "other"
			installIs(t, c, 1, w, impl.ErrBad)
		}
	}
}

// What is installed is seen from its time on, and nothing else changes.
func TestP9InstalledIsSeen(t *testing.T) {
	c := coll("1 2=1 6-|5 4=2|9 3-")
	for id := range impl.TopId + 1 {
		for at := 1; at < 12; at++ {
			for _, w := range writesOf(id) {
				d, code := impl.Install(c, at, w)
				if code == impl.ErrOrder {
					continue
				}
				for snap := range 14 {
					docs, _ := impl.SeenAt(c, snap)
					if snap >= at {
						docs = slices.DeleteFunc(docs, func(doc impl.Value) bool { n, _ := impl.IdOf(doc); return n == id })
						if !w.Gone {
							docs = append(docs, w.Doc)
						}
					}
					slices.SortFunc(docs, func(a, b impl.Value) int { m, _ := impl.IdOf(a); n, _ := impl.IdOf(b); return m - n })
					seenIs(t, d, snap, seen(t, docs))
				}
			}
		}
	}
}
