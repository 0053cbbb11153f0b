package tests

import (
	"fmt"
	"slices"
	"strings"
	"testing"

	"loop.example/g00380/impl"
)

// spareTree is a tree whose lists have room behind their ends, and all that stands there. The pages'
// entries lie in one store, one page's right behind the other's.
func spareTree() (impl.Tree, []impl.Entry, []impl.Page) {
	store := entries("b0 b1 d0 d1 d2 d3 f0 f1 f2 x7 x8")
	return treeOn(store)
}

func treeOn(store []impl.Entry) (impl.Tree, []impl.Entry, []impl.Page) {
	pages := []impl.Page{{Number: 4, Entries: store[:2]}, {Number: 1, Entries: store[2:6]}, {Number: 3, Entries: store[6:9]}, {Number: 99, Entries: store[9:]}, {Number: 98}}
	return impl.Tree{Pages: pages[:3], Next: 6}, store, pages
}

// changingEntries are put and dropped in spareTree: first, in the middle and last on each page, and
// such that its page is split; some are there, some are wrong.
var changingEntries = []string{"0", "a0", "b0", "b1", "b2", "c0", "d0", "d1", "d2", "d3", "d4", "e0", "f0", "f1", "f2", "f3", "z0", "z10000"}

func TestP1TreesStayAsTheyAre(t *testing.T) {
	x, store, pages := spareTree()
	_, before, beforePages := spareTree()
	for _, word := range changingEntries {
		e := entry(word)
		impl.TreeOK(x)
		changes(x, e)
		impl.PageAt(x, e)
		impl.TreeSize(x)
		for _, high := range changingEntries {
			impl.TreeRange(x, between(e.Key, entry(high).Key))
		}
		impl.TreeRange(x, from(e.Key))
		if !slices.Equal(store, before) {
			t.Fatalf("the entries %v became %v with %s", before, store, word)
		}
		if !slices.EqualFunc(pages, beforePages, samePage) {
			t.Fatalf("the pages %v became %v with %s", beforePages, pages, word)
		}
	}
}

// changes are the trees that one put, one put without room for a page and one drop answer.
func changes(x impl.Tree, e impl.Entry) []impl.Tree {
	put, _, _ := impl.TreePut(x, e)
	dropped, _ := impl.TreeDrop(x, e)
	x.Next = 100000
	last, _, _ := impl.TreePut(x, e)
	return []impl.Tree{put, last, dropped}
}

func ownTree(x impl.Tree) impl.Tree {
	own := impl.Tree{Next: x.Next}
	for _, p := range x.Pages {
		own.Pages = append(own.Pages, impl.Page{Number: p.Number, Entries: slices.Clone(p.Entries)})
	}
	return own
}

// wiped clears all that a tree reaches, list by list: no other list of it may feel it.
func wiped(t *testing.T, what string, x impl.Tree) {
	t.Helper()
	before := ownTree(x)
	for i, p := range x.Pages {
		clear(p.Entries[:cap(p.Entries)])
		for j := i + 1; j < len(x.Pages); j++ {
			if !samePage(x.Pages[j], before.Pages[j]) {
				t.Errorf("%s: the pages %d and %d of %s share their entries", what, i, j, shownTree(before))
			}
		}
	}
	clear(x.Pages[:cap(x.Pages)])
}

func TestP1ChangedTreesAreNew(t *testing.T) {
	for _, word := range changingEntries {
		x, store, pages := spareTree()
		_, before, beforePages := spareTree()
		first, second := changes(x, entry(word)), changes(x, entry(word))
		for i := range first {
			if !sameTree(first[i], second[i]) {
				t.Fatalf("%s: %s, then %s", word, shownTree(first[i]), shownTree(second[i]))
			}
			wiped(t, word, first[i])
			if !slices.Equal(store, before) || !slices.EqualFunc(pages, beforePages, samePage) {
				t.Fatalf("%s: an answer shares lists with its argument", word)
			}
		}
		clear(store)
		clear(pages)
		fresh, _, _ := spareTree()
		for i, want := range changes(fresh, entry(word)) {
			if !sameTree(second[i], want) {
				t.Errorf("%s: an answer hangs on what became of its argument: %s, not %s", word, shownTree(second[i]), shownTree(want))
			}
		}
	}
}

func TestP1NewTreesAreNew(t *testing.T) {
	x := impl.NewTree()
	x.Pages[0].Number = 7
	clear(x.Pages[:cap(x.Pages)])
	if y := impl.NewTree(); !sameTree(y, tree(2, "1")) {
		t.Errorf("NewTree() = %s", shownTree(y))
	}
}

func TestP1RangesAreNew(t *testing.T) {
	x, store, _ := spareTree()
	_, before, _ := spareTree()
	list, pages, _ := impl.TreeRange(x, from("b"))
	again, numbers, code := impl.TreeRange(x, from("b"))
	if code != impl.OK || !slices.Equal(list, again) || !slices.Equal(pages, numbers) || len(list) != 9 || len(pages) != 3 {
		t.Fatalf("TreeRange: %v, %v, then %v, %v, %d", list, pages, again, numbers, code)
	}
	clear(list[:cap(list)])
	clear(pages[:cap(pages)])
	if !slices.Equal(store, before) || len(again) != 9 || again[0] != entry("b0") || numbers[0] != 4 {
		t.Error("TreeRange's answers share a list")
	}
	clear(store)
	if !slices.Equal(again, before[:9]) {
		t.Errorf("TreeRange's answer hangs on what became of its argument: %v", again)
	}
}

func keysOf(x impl.Tree) []string {
	var list []string
	for _, p := range x.Pages {
		for _, e := range p.Entries {
			list = append(list, e.Key)
		}
	}
	return list
}

func TestP1TreesShareNoTexts(t *testing.T) {
	for _, word := range []string{"a0", "b0", "c0", "d2", "e0", "f1", "z0"} {
		store := entries("b0 b1 d0 d1 d2 d3 f0 f1 f2 x7 x8")
		// One text behind all keys: its pieces are another's.
		whole := strings.Repeat("bdfx", 9)
		for i := range store {
			at := strings.Index("bdfx", store[i].Key[:1])
			store[i].Key = whole[at : at+1]
		}
		x, _, _ := treeOn(store)
		e := entry(word)
		given := append(keysOf(x), e.Key, whole)
		for _, y := range changes(x, e) {
			if len(keysOf(y)) < 8 {
				t.Fatalf("%s: %s", word, shownTree(y))
			}
			noOneShares(t, keysOf(y), given)
		}
		list, _, _ := impl.TreeRange(x, openWith(whole[:1], whole))
		noOneShares(t, keysOf(impl.Tree{Pages: []impl.Page{{Entries: list}}}), given)
	}
}

// toldTrees writes down all that the calls of chapter 6 answer to a value's text and numbers.
func toldTrees(v impl.Value) string {
	var s strings.Builder
	trees := []impl.Tree{
		impl.NewTree(),
		{Pages: []impl.Page{{Number: v.Kind, Entries: []impl.Entry{{Key: v.T, Id: v.N}}}}, Next: 4},
		{Pages: []impl.Page{{Number: 1, Entries: []impl.Entry{{}, {Key: v.T, Id: 1}, {Key: v.T, Id: 3}}}, {Number: 2, Entries: []impl.Entry{{Key: v.T, Id: 5}, {Key: v.T + "x", Id: v.Kind}, {Key: v.T + "y"}, {Key: v.T + "z"}}}}, Next: 3},
		{Pages: []impl.Page{{Number: 1, Entries: []impl.Entry{{Key: v.T}}}, {Number: 2, Entries: []impl.Entry{{Key: "m"}}}}, Next: v.N},
	}
	for _, x := range trees {
		n, code := impl.TreeSize(x)
		fmt.Fprintln(&s, impl.TreeOK(x), n, code)
		for _, e := range []impl.Entry{{}, {Key: v.T, Id: v.N}, {Key: v.T, Id: 3}, {Key: v.T + "x", Id: v.Kind}, {Key: "zz"}} {
			y, n, code := impl.TreePut(x, e)
			fmt.Fprintln(&s, shownTree(y), n, code)
			y, code = impl.TreeDrop(x, e)
			fmt.Fprintln(&s, shownTree(y), code)
			n, code = impl.PageAt(x, e)
			fmt.Fprintln(&s, n, code)
			list, pages, code := impl.TreeRange(x, impl.Interval{Low: v.T, High: e.Key + "y", Open: v.Kind == impl.VaNull})
			fmt.Fprintf(&s, "%q %v %d\n", fmt.Sprint(list), pages, code)
		}
	}
	return s.String()
}
