package tests

import (
	"fmt"
	"slices"
	"strings"
	"testing"

	"loop.example/g00380/impl"
)

// The audit looks at all that a store has, and leaves it as it is.
func TestP1AuditsLeaveTheirStores(t *testing.T) {
	s, before := newSpareStore(), newSpareStore()
	wrong := impl.Store{Colls: s.txn.colls, Txns: s.txns, Done: s.txn.dones.list, Clock: 3}
	for _, x := range append(s.stores(), wrong) {
		first, code := impl.SizesOf(x)
		second, c := impl.SizesOf(x)
		for range 2 {
			impl.Settled(x)
			impl.NoPivot(x)
		}
		if !slices.Equal(first, second) || code != c || (code == impl.OK) != impl.StoreOK(x) || (len(first) == 4) != (code == impl.OK) {
			t.Errorf("SizesOf: %v, %d, then %v, %d", first, code, second, c)
		}
		isNew(t, "SizesOf", [][]int{first, second}, x)
		clear(first[:cap(first)])
		if again, _ := impl.SizesOf(x); !slices.Equal(second, again) {
			t.Errorf("SizesOf: %v, then %v", second, again)
		}
	}
	if !s.same(before) {
		t.Errorf("a call changed its argument: %s", shownStore(s.s))
	}
}

func TestP1PlansAgreeLeavesItsArguments(t *testing.T) {
	s, before := newSpareQuery(), newSpareQuery()
	newDefs := func() ([]impl.Part, []impl.Def) {
		list := []impl.Part{{Path: "d.v"}, {Path: "id", Desc: true}, {Path: "d.v", Desc: true}, {Path: "9"}}
		return list, []impl.Def{{Name: "one", Parts: list[:2]}, {Name: "one", Parts: list[1:3]}, {Name: "two", Parts: list[:1]}, {Name: "9", Parts: list}, {}}
	}
	parts, defs := newDefs()
	for n, code := range []int{impl.OK, impl.OK, impl.OK, impl.OK, impl.ErrBad, impl.ErrBad} {
		agreeIs(t, fmt.Sprint(n, " definitions"), s.q, s.documents(), defs[:n], code)
	}
	agreeIs(t, "a wrong one", s.q, s.documents(), defs[2:4], impl.ErrBad)
	agreeIs(t, "wrong documents", s.q, s.docs, defs[:3], impl.ErrBad)
	agreeIs(t, "a wrong query", impl.Query{Filter: impl.Filter{Any: s.clauses}, Sort: s.parts, Keep: s.keep}, s.documents(), defs[:3], impl.ErrBad)
	otherParts, otherDefs := newDefs()
	if !s.same(before) || !slices.Equal(parts, otherParts) || !slices.EqualFunc(defs, otherDefs, sameDef) {
		t.Error("PlansAgree changed its argument")
	}
}

// fullDone has as many reads and changes as there may be, of which no read hangs on a change: each pair
// must be looked at.
func fullDone(at int) impl.Done {
	far := term(impl.TeEq, "a.b.c.d", textOf("none"))
	d := impl.Done{At: at, Changes: manyChanges(60)}
	for i, c := range d.Changes {
		long := record("id", num(c.Write.Id), "k", many(slices.Repeat([]node{num(1)}, 20)...)).value()
		d.Changes[i].Write.Gone, d.Changes[i].Write.Doc, d.Changes[i].Before, d.Changes[i].Was = false, long, long, true
	}
	for range impl.MaxReads {
		d.Reads = append(d.Reads, impl.Read{Coll: "c1", Filter: filter(clause(far, far, far, far), clause(far, far, far, far), clause(far, far, far, far))})
	}
	return d
}

// However much there is to look at, an audit ends.
func TestP1AuditsOfFullStoresEnd(t *testing.T) {
	s := storeOf(100, allChains(impl.MaxVersions))
	for at := range impl.MaxDone {
		s.Done = append(s.Done, fullDone(at+1))
	}
	noPivotIs(t, "full", s, true)
	settledIs(t, "full", s, false)
	sizesAre(t, "full", s, 0, impl.MaxDone, impl.MaxVersions*(impl.TopId+1), impl.TopId+1)
	s.Done[7].Reads[19] = impl.Read{Coll: "c0", Filter: everything()}
	noPivotIs(t, "full, one is Out, all others are In", s, true)
	s.Done[8].Reads[0] = impl.Read{Coll: "c2", Filter: everything()}
	noPivotIs(t, "full, two are pivots", s, false)
}

// toldAudit writes down all that the calls of chapter 15 answer to a value, and to its text.
func toldAudit(v impl.Value) string {
	var s strings.Builder
	inside := raw(impl.VaDoc, "\x01a"+string(rawBytes(v))+"\x02id"+string(rawBytes(intOf(3))))
	c := impl.Coll{Name: "docs", Chains: []impl.Chain{{Id: 3, Versions: []impl.Version{{At: 2, Doc: inside}}}}}
	read := []impl.Read{{Coll: "docs", Filter: where(term(impl.TeEq, "a", v))}}
	change := []impl.Change{{Write: impl.Write{Coll: "docs", Id: 3, Doc: inside}}}
	for _, x := range []impl.Store{
		storeOf(5, c), storeOf(v.N, coll("")), storeOf(5, c, named(v.T, "1 2=1 3-")), {Colls: []impl.Coll{c}, Txns: []impl.Txn{{Session: v.Kind, Snap: v.N}}, Clock: 9},
		{Colls: []impl.Coll{c}, Done: []impl.Done{{At: 1, Reads: read, Changes: change}, {At: 2, Reads: read, Changes: change}, {Snap: v.N, At: 4, Reads: read}}, Clock: 9},
		{Colls: []impl.Coll{c}, Done: []impl.Done{{At: 1, Reads: read}, {At: 2, Changes: change, In: true}, {Snap: v.Kind, At: 7, Reads: []impl.Read{{Coll: v.T, Filter: everything()}}}}, Clock: 9},
	} {
		settled, code := impl.Settled(x)
		free, k := impl.NoPivot(x)
		sizes, l := impl.SizesOf(x)
		fmt.Fprintln(&s, settled, code, free, k, sizes, l)
	}
	for _, q := range []impl.Query{{Filter: read[0].Filter}, {Filter: everything(), Hint: v.T}, {Filter: everything(), Skip: v.N}} {
		for _, docs := range [][]impl.Value{{inside}, {v}, {record("id", num(1)).value(), inside}} {
			for _, defs := range [][]impl.Def{{def("one", "a", "-id")}, {def(v.T, "a")}, {def("one", "-a"), def("two", v.T)}} {
				agree, code := impl.PlansAgree(q, docs, defs)
				fmt.Fprintln(&s, agree, code)
			}
		}
	}
	return s.String()
}
