package tests

import (
	"fmt"
	"testing"

	"loop.example/g00380/impl"
)

// addIs asks for one document more: as it was with a code other than OK.
func addIs(t *testing.T, what string, x impl.Index, doc node, want impl.Tree, code int) impl.Index {
	t.Helper()
	y, c := impl.IndexAdd(x, doc.value())
	if !sameIndex(y, impl.Index{Def: x.Def, Tree: want}) || c != code {
		t.Errorf("IndexAdd, %s: %s, %d, not %s, %d", what, shownIndex(y), c, shownTree(want), code)
	}
	return y
}

func removeIs(t *testing.T, what string, x impl.Index, doc node, want impl.Tree, code int) impl.Index {
	t.Helper()
	y, c := impl.IndexRemove(x, doc.value())
	if !sameIndex(y, impl.Index{Def: x.Def, Tree: want}) || c != code {
		t.Errorf("IndexRemove, %s: %s, %d, not %s, %d", what, shownIndex(y), c, shownTree(want), code)
	}
	return y
}

// textIndex is by d.v, as listed documents have it; its tree is written as those of tree are, the
// keys being those of texts.
func textIndex(next int, text string) impl.Index {
	x := tree(next, text)
	for _, p := range x.Pages {
		for i, e := range p.Entries {
			p.Entries[i].Key = word(e.Key).key()
		}
	}
	return impl.Index{Def: def("one", "d.v"), Tree: x}
}

func TestP7AddInPages(t *testing.T) {
	for _, r := range []struct {
		next int
		x    string
		doc  node
		then int
		want string
	}{
		{2, "1", listed(3, "a"), 2, "1 a3"},
		{9, "7", listed(3, "b", "a"), 9, "7 a3 b3"},
		{2, "1 a1 b1", listed(3, "b", "a"), 2, "1 a1 a3 b1 b3"},
		{2, "1 a5 b5", listed(3, "b", "a"), 2, "1 a3 a5 b3 b5"},
		{9, "4 a1 b1|3 d1", listed(2, "c", "e"), 9, "4 a1 b1 c2|3 d1 e2"},
		{9, "4 a1 b1 c1 d1", listed(2, "e"), 10, "4 a1 b1|9 c1 d1 e2"},
		// The keys come in the document's order: the pages are those of that order.
		{9, "4 a1 b1 c1 d1", listed(2, "e", "aa", "f"), 10, "4 a1 aa2 b1|9 c1 d1 e2 f2"},
		{9, "4 a1 b1 c1 d1", listed(2, "aa", "e", "f"), 11, "4 a1 aa2|9 b1 c1|10 d1 e2 f2"},
		{9, "4 a1 b1 c1 d1", listed(2, "aa", "e", "aa", "f", "e"), 11, "4 a1 aa2|9 b1 c1|10 d1 e2 f2"},
		{9, "4 a1 b1 c1 d1|5 g1 h1", listed(99, "i", "c", "f"), 10, "4 a1 b1|9 c1 c99 d1 f99|5 g1 h1 i99"},
	} {
		addIs(t, r.x, textIndex(r.next, r.x), r.doc, textIndex(r.then, r.want).Tree, impl.OK)
	}
	// A document that comes to nothing has an entry of null's key.
	null := impl.Tree{Pages: []impl.Page{{Number: 1, Entries: []impl.Entry{{Key: "\x01", Id: 8}}}}, Next: 2}
	addIs(t, "nothing", textIndex(2, "1"), listed(8), null, impl.OK)
}

func TestP7AddTwice(t *testing.T) {
	const text = "4 a1 b1|3 c1 c2 d1 d3|7 e1 e2"
	for _, next := range []int{9, 100000} {
		x := textIndex(next, text)
		for _, doc := range []node{
			listed(1, "a", "b", "c", "d", "e"), listed(1, "a"), listed(1, "e"), listed(2, "e", "c"), listed(3, "d"),
			// Some are there, others are not, whichever comes first.
			listed(1, "a", "x"), listed(1, "x", "a"), listed(1, "x", "y", "e", "z"), listed(2, "a", "b", "c"), listed(2, "c", "b", "a"), listed(3, "0", "1", "2", "d"), listed(1, "c", "cc", "ccc", "cccc"),
		} {
			addIs(t, doc.String(), x, doc, x.Tree, impl.ErrTwice)
		}
		for _, doc := range []node{listed(2, "a"), listed(4, "a"), listed(1, "aa"), listed(1, "f", "g")} {
			y, code := impl.IndexAdd(x, doc.value())
			if code != impl.OK {
				t.Errorf("IndexAdd of %v: %d", doc, code)
			}
			addIs(t, "once more", y, doc, y.Tree, impl.ErrTwice)
		}
	}
}

// roomAt is an index of 60 pages of which all but one are full: that has room for two.
func roomAt(page int) impl.Index {
	x := impl.Index{Def: def("one", "d.v"), Tree: impl.Tree{Next: 500}}
	for i := range impl.MaxPages {
		p := impl.Page{Number: 100 + i}
		for j := range impl.MaxPage {
			if i != page || j < 2 {
				p.Entries = append(p.Entries, impl.Entry{Key: word(fmt.Sprintf("%02d%d", i, j)).key(), Id: j})
			}
		}
		x.Tree.Pages = append(x.Tree.Pages, p)
	}
	return x
}

func TestP7AddWithRoomForSome(t *testing.T) {
	x := roomAt(30)
	for _, doc := range []node{
		listed(9, "301a", "301b", "301c"), listed(9, "301a", "400"), listed(9, "400", "301a"), listed(9, "000"), listed(9, ""), listed(9, "z"), listed(9), listed(9, "301a", "z", "301b"), listed(9, "30", "301a"),
	} {
		addIs(t, "without room: "+doc.String(), x, doc, x.Tree, impl.ErrFull)
	}
	y := addIs(t, "the last room", x, listed(9, "301a", "301b"), withRoomFilled(x, 30, "301a", "301b"), impl.OK)
	addIs(t, "no room", y, listed(9, "301c"), y.Tree, impl.ErrFull)
	addIs(t, "there already", y, listed(9, "301b"), y.Tree, impl.ErrTwice)
	// Without a Number that is left, too.
	x = textIndex(100000, "4 a1 b1|3 c1 d1 e1 f1|7 g1")
	addIs(t, "room on other pages", x, listed(2, "b", "h"), textIndex(100000, "4 a1 b1 b2|3 c1 d1 e1 f1|7 g1 h2").Tree, impl.OK)
	addIs(t, "no Number", x, listed(2, "b", "h", "d"), x.Tree, impl.ErrFull)
	addIs(t, "no Number", x, listed(2, "d", "b", "h"), x.Tree, impl.ErrFull)
	addIs(t, "no Number", x, listed(2, "b", "bb", "bbb"), x.Tree, impl.ErrFull)
	x.Tree.Next = 99999
	addIs(t, "one Number", x, listed(2, "b", "h", "d"), textIndex(100000, "4 a1 b1 b2|3 c1 d1|99999 d2 e1 f1|7 g1 h2").Tree, impl.OK)
	x.Tree.Next = 99998
	addIs(t, "two Numbers", x, listed(2, "bb", "cc", "b", "bbb"), textIndex(100000, "4 a1 b1|99999 b2 bb2 bbb2|3 c1 cc2|99998 d1 e1 f1|7 g1").Tree, impl.OK)
}

// withRoomFilled has the keys, which rise, of the Id 9 behind the entries of one page.
func withRoomFilled(x impl.Index, page int, keys ...string) impl.Tree {
	own := ownTree(x.Tree)
	for _, key := range keys {
		own.Pages[page].Entries = append(own.Pages[page].Entries, impl.Entry{Key: word(key).key(), Id: 9})
	}
	return own
}

// A key that is there is told ahead of lacking room, wherever it stands among the keys.
func TestP7AddFaultsInOrder(t *testing.T) {
	x := roomAt(30)
	for _, keys := range [][]string{{"593", "000x"}, {"000x", "593"}, {"301a", "000x", "593"}, {"000x", "001x", "301a", "593"}, {"301a", "301b", "301c", "593"}} {
		// 593 is there with the Id 3, but not with 2.
		addIs(t, fmt.Sprint(keys), x, listed(3, keys...), x.Tree, impl.ErrTwice)
		addIs(t, fmt.Sprint(keys), x, listed(2, keys...), x.Tree, impl.ErrFull)
	}
	x = textIndex(100000, "4 a1 b1 c1 d1")
	addIs(t, "no Number, and one that is there", x, listed(1, "e", "d"), x.Tree, impl.ErrTwice)
	addIs(t, "no Number", x, listed(1, "e", "f"), x.Tree, impl.ErrFull)
}

func TestP7RemoveInPages(t *testing.T) {
	for _, r := range []struct {
		x    string
		doc  node
		want string
	}{
		{"1 a3", listed(3, "a"), "1"},
		{"7 a3 b3", listed(3, "b", "a"), "7"},
		{"7 a3 b3", listed(3, "a"), "7 b3"},
		{"7 a1 a3 b1 b3", listed(3, "b", "a"), "7 a1 b1"},
		{"4 a1 b1 c2|3 d1 e2", listed(2, "c", "e"), "4 a1 b1|3 d1"},
		{"4 a1 b1|3 c2 d2", listed(2, "c", "d"), "4 a1 b1"},
		{"4 a1 b1|3 c2 d2|5 e1", listed(2, "c", "d"), "4 a1 b1|5 e1"},
		{"4 a2 b2|3 c2 d1|5 e2", listed(2, "e", "c", "b", "a"), "3 d1"},
		{"4 a1 b1|3 c1 d1", listed(1, "a", "c", "a"), "4 b1|3 d1"},
		// An empty page stays if it is alone: that of the document's last key.
		{"4 a1 b1|3 c1 d1", listed(1, "a", "b", "c", "d"), "3"},
		{"4 a1 b1|3 c1 d1", listed(1, "d", "c", "b", "a"), "4"},
		{"4 a1|3 c1|6 d1", listed(1, "d", "a", "c"), "3"},
		{"4 a1|3 c1|6 d1", listed(1, "c", "a", "d"), "6"},
		{"4 a1|3 c1|6 d1", listed(1, "c", "d", "a"), "4"},
	} {
		for _, next := range []int{9, 100000} {
			removeIs(t, r.x, textIndex(next, r.x), r.doc, textIndex(next, r.want).Tree, impl.OK)
		}
	}
}

func TestP7RemoveOfNone(t *testing.T) {
	const text = "4 a1 b1|3 c1 c2 d1 d3|7 e1 e2"
	for _, next := range []int{9, 100000} {
		x := textIndex(next, text)
		for _, doc := range []node{
			listed(4, "a"), listed(4, "a", "b", "c"), listed(1), listed(1, "f"), listed(1, "0"), listed(2, "a"), listed(3, "c"), listed(0, "a"), listed(99, "e"), listed(1, "aa"),
			// Some are there, others are not: the ones that are there stay.
			listed(1, "a", "x"), listed(1, "x", "a"), listed(1, "a", "b", "c", "d", "e", "f"), listed(2, "c", "e", "d"), listed(2, "d", "c", "e"), listed(3, "d", "c"), listed(1, "a", "b", "cc", "d"),
		} {
			removeIs(t, doc.String(), x, doc, x.Tree, impl.ErrNone)
		}
	}
	for _, x := range []impl.Index{textIndex(2, "1"), textIndex(100000, "99999"), roomAt(0), roomAt(59)} {
		removeIs(t, "not there", x, listed(9, "a"), x.Tree, impl.ErrNone)
		removeIs(t, "some there", x, listed(3, "300", "303", "304"), x.Tree, impl.ErrNone)
		removeIs(t, "no document", x, listed(9), x.Tree, impl.ErrNone)
	}
}

// What is removed may be added again, and added again removed.
func TestP7AddAndRemoveInTurn(t *testing.T) {
	x := textIndex(2, "1")
	one, two, three := listed(1, "b", "d"), listed(2, "d", "b", "a"), listed(0, "c", "d")
	x = addIs(t, "one", x, one, textIndex(2, "1 b1 d1").Tree, impl.OK)
	x = addIs(t, "two", x, two, textIndex(3, "1 a2 b1|2 b2 d1 d2").Tree, impl.OK)
	removeIs(t, "three", x, three, x.Tree, impl.ErrNone)
	x = addIs(t, "three", x, three, textIndex(4, "1 a2 b1|2 b2 c0|3 d0 d1 d2").Tree, impl.OK)
	addIs(t, "two", x, two, x.Tree, impl.ErrTwice)
	x = removeIs(t, "one", x, one, textIndex(4, "1 a2|2 b2 c0|3 d0 d2").Tree, impl.OK)
	removeIs(t, "one", x, one, x.Tree, impl.ErrNone)
	x = removeIs(t, "two", x, two, textIndex(4, "2 c0|3 d0").Tree, impl.OK)
	x = addIs(t, "one", x, one, textIndex(4, "2 b1 c0|3 d0 d1").Tree, impl.OK)
	x = removeIs(t, "three", x, three, textIndex(4, "2 b1|3 d1").Tree, impl.OK)
	x = removeIs(t, "one", x, one, textIndex(4, "3").Tree, impl.OK)
	x = addIs(t, "three", x, three, textIndex(4, "3 c0 d0").Tree, impl.OK)
	removeIs(t, "three", x, three, textIndex(4, "3").Tree, impl.OK)
}

// An index doesn't count documents: one more than MaxDocs may be added if there is room, and so may
// another one of the same id.
func TestP7AddOfMoreDocuments(t *testing.T) {
	x, plain := impl.Index{Def: def("one", "a"), Tree: impl.NewTree()}, newPlainTree()
	for id := range impl.MaxId + 1 {
		doc := record("a", num(-id), "id", num(id))
		next, code := plain.add(doc.entriesAt(x.Def))
		x = addIs(t, fmt.Sprint("document ", id), x, doc, next.tree(), code)
		plain = next
		if code != impl.OK {
			t.Errorf("document %d: %d", id, code)
		}
	}
	doc := record("a", num(7), "id", num(50))
	next, _ := plain.add(doc.entriesAt(x.Def))
	addIs(t, "another one of the same id", x, doc, next.tree(), impl.OK)
}
