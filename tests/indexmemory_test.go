package tests

import (
	"fmt"
	"slices"
	"strings"
	"testing"

	"loop.example/g00380/impl"
)

// spareIndex is an index whose lists have room behind their ends, and all that stands there.
type spareIndex struct {
	x     impl.Index
	parts []impl.Part
	store []impl.Entry
	pages []impl.Page
}

// newSpareIndex is by d.v and no, the pages' entries lying one page's right behind the other's.
func newSpareIndex() *spareIndex {
	s := &spareIndex{parts: []impl.Part{{Path: strings.Clone("d.v")}, {Path: strings.Clone("no"), Desc: true}, {Path: "9"}, {Path: "x"}}}
	for _, e := range entries("b0 b1 d0 d1 d2 d3 f0 f1 f2 x7 x8") {
		e.Key = word(e.Key).key() + "\xfe"
		s.store = append(s.store, e)
	}
	s.x.Tree, _, s.pages = treeOn(s.store)
	s.x.Def = impl.Def{Name: strings.Clone("one"), Parts: s.parts[:2]}
	return s
}

func (s *spareIndex) same(other *spareIndex) bool {
	return sameIndex(s.x, other.x) && slices.Equal(s.parts, other.parts) && slices.Equal(s.store, other.store) && slices.EqualFunc(s.pages, other.pages, samePage)
}

// changingDocs are added to and removed from spareIndex: some are there, some in part, some not.
func changingDocs() []node {
	return []node{
		listed(0, "b", "d", "f"), listed(1, "b"), listed(2, "d", "f"), listed(3, "d"), listed(0, "b"), listed(1, "f", "d", "b"),
		listed(0, "b", "x"), listed(3, "b", "d"), listed(4, "a"), listed(4, "a", "b", "c", "d", "e", "f", "g"), listed(4), listed(7, "x"), listed(9, "d", "dd", "ddd"), record(), node{},
	}
}

// indexChanges are the indexes that one document more, one more without a Number left, and one less
// make, and one that is built of it.
func indexChanges(x impl.Index, doc impl.Value) []impl.Index {
	added, _ := impl.IndexAdd(x, doc)
	removed, _ := impl.IndexRemove(x, doc)
	built, _ := impl.BuildIndex(x.Def, []impl.Value{doc})
	x.Tree.Next = 100000
	last, _ := impl.IndexAdd(x, doc)
	return []impl.Index{added, removed, built, last}
}

func TestP1IndexesStayAsTheyAre(t *testing.T) {
	s, before := newSpareIndex(), newSpareIndex()
	for _, doc := range changingDocs() {
		impl.DefOK(s.x.Def)
		impl.DocKeys(s.x.Def, doc.value())
		indexChanges(s.x, doc.value())
		impl.IndexHolds(s.x, []impl.Value{doc.value()})
		if !s.same(before) {
			t.Fatalf("%s became %s with %v", shownIndex(before.x), shownIndex(s.x), doc)
		}
	}
}

func TestP1IndexCallsLeaveTheirDocuments(t *testing.T) {
	store := append(values([]node{listed(1, "b"), listed(2, "d", "a"), listed(5)}), impl.Value{}, intOf(7))
	before := slices.Clone(store)
	d := def("one", "d.v")
	x, code := impl.BuildIndex(d, store[:3])
	holds, c := impl.IndexHolds(x, store[:3])
	if !holds || code != impl.OK || c != impl.OK || !slices.Equal(store, before) {
		t.Errorf("BuildIndex, then IndexHolds: %d, %v, %d, %v", code, holds, c, store)
	}
	clear(store)
	holdsIs(t, "once the list is wiped", x, before[:3], true)
}

func TestP1ChangedIndexesAreNew(t *testing.T) {
	for _, doc := range changingDocs() {
		s, before := newSpareIndex(), newSpareIndex()
		first, second := indexChanges(s.x, doc.value()), indexChanges(s.x, doc.value())
		for i := range first {
			if !sameIndex(first[i], second[i]) {
				t.Fatalf("%v: %s, then %s", doc, shownIndex(first[i]), shownIndex(second[i]))
			}
			wiped(t, doc.String(), first[i].Tree)
			clear(first[i].Def.Parts[:cap(first[i].Def.Parts)])
			if !s.same(before) {
				t.Fatalf("%v: an answer shares lists with its argument", doc)
			}
		}
		clear(s.store)
		clear(s.pages)
		clear(s.parts)
		for i, want := range indexChanges(before.x, doc.value()) {
			if !sameIndex(second[i], want) {
				t.Errorf("%v: an answer hangs on what became of its argument: %s, not %s", doc, shownIndex(second[i]), shownIndex(want))
			}
		}
	}
}

func TestP1IndexesShareNoTexts(t *testing.T) {
	for _, doc := range changingDocs() {
		s, v := newSpareIndex(), doc.value()
		given := append(keysOf(s.x.Tree), s.x.Def.Name, s.x.Def.Parts[0].Path, s.x.Def.Parts[1].Path, v.T)
		for _, x := range indexChanges(s.x, v) {
			made := append(keysOf(x.Tree), x.Def.Name)
			for _, p := range x.Def.Parts {
				made = append(made, p.Path)
			}
			noOneShares(t, made, given)
		}
		for _, d := range []impl.Def{s.x.Def, def("one", "d.v"), def("one", "-d", "d.v")} {
			keys, _ := impl.DocKeys(d, v)
			noOneShares(t, keys, given)
		}
	}
}

func TestP1DocKeysAreNew(t *testing.T) {
	doc := record("a", many(num(1), num(2)), "b", many(num(3))).value()
	for _, d := range []impl.Def{def("one", "a"), def("one", "a", "-b")} {
		keys, _ := impl.DocKeys(d, doc)
		again, code := impl.DocKeys(d, doc)
		want := slices.Clone(again)
		clear(keys[:cap(keys)])
		if code != impl.OK || len(want) < 3 || !slices.Equal(again, want) || slices.Contains(again, "") {
			t.Errorf("DocKeys: %q, %d, not %q", again, code, want)
		}
	}
}

// toldIndexes writes down all that the calls of chapter 7 answer to a value, and to its text.
func toldIndexes(v impl.Value) string {
	var s strings.Builder
	id, code := impl.IdOf(v)
	fmt.Fprintln(&s, id, code)
	inside := raw(impl.VaDoc, "\x01a"+string(rawBytes(v))+"\x02id"+string(rawBytes(intOf(3))))
	for _, d := range []impl.Def{def("one", "a"), def(v.T, "-a.b"), def("one", "-a", "b"), def("one", "a", v.T)} {
		fmt.Fprintln(&s, impl.DefOK(d))
		for _, doc := range []impl.Value{v, inside} {
			keys, code := impl.DocKeys(d, doc)
			fmt.Fprintf(&s, "%q %d\n", keys, code)
			x, code := impl.BuildIndex(d, []impl.Value{doc})
			fmt.Fprintln(&s, shownIndex(x), code)
			holds, code := impl.IndexHolds(x, []impl.Value{inside})
			fmt.Fprintln(&s, holds, code)
			for _, tree := range []impl.Tree{x.Tree, {Pages: []impl.Page{{Number: 1, Entries: []impl.Entry{{Key: v.T, Id: v.N}}}}, Next: 2}} {
				y, code := impl.IndexAdd(impl.Index{Def: d, Tree: tree}, inside)
				fmt.Fprintln(&s, shownIndex(y), code)
				y, code = impl.IndexRemove(impl.Index{Def: d, Tree: tree}, inside)
				fmt.Fprintln(&s, shownIndex(y), code)
			}
		}
	}
	return s.String()
}
