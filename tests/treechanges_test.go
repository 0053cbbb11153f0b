package tests

import (
	"fmt"
	"math"
	"strings"
	"testing"

	"loop.example/g00380/impl"
)

// putIs asks for one put: as it was with a code other than OK.
func putIs(t *testing.T, x impl.Tree, e impl.Entry, want impl.Tree, number, code int) {
	t.Helper()
	y, n, c := impl.TreePut(x, e)
	if !sameTree(y, want) || n != number || c != code {
		t.Errorf("TreePut(%s, %.20q.%d) = %s, %d, %d, not %s, %d, %d", shownTree(x), e.Key, e.Id, shownTree(y), n, c, shownTree(want), number, code)
	}
	if !impl.TreeOK(y) {
		t.Errorf("TreePut(%s, %.20q.%d) = %s, which is not right", shownTree(x), e.Key, e.Id, shownTree(y))
	}
}

func dropIs(t *testing.T, x impl.Tree, e impl.Entry, want impl.Tree, code int) {
	t.Helper()
	y, c := impl.TreeDrop(x, e)
	if !sameTree(y, want) || c != code {
		t.Errorf("TreeDrop(%s, %.20q.%d) = %s, %d, not %s, %d", shownTree(x), e.Key, e.Id, shownTree(y), c, shownTree(want), code)
	}
	if !impl.TreeOK(y) {
		t.Errorf("TreeDrop(%s, %.20q.%d) = %s, which is not right", shownTree(x), e.Key, e.Id, shownTree(y))
	}
}

func TestP6PutWithRoom(t *testing.T) {
	for _, r := range []struct{ x, word, want string }{
		{"1", "a0", "1 a0"},
		{"7", "a5", "7 a5"},
		{"1 b0", "a0", "1 a0 b0"},
		{"1 b0", "b1", "1 b0 b1"},
		{"1 b1", "b0", "1 b0 b1"},
		{"1 b0", "c0", "1 b0 c0"},
		{"1 b0", "0", "1 0 b0"},
		{"1 a0 c0", "b0", "1 a0 b0 c0"},
		{"1 b0 d0 f0", "a0", "1 a0 b0 d0 f0"},
		{"1 b0 d0 f0", "c0", "1 b0 c0 d0 f0"},
		{"1 b0 d0 f0", "e0", "1 b0 d0 e0 f0"},
		{"1 b0 d0 f0", "g0", "1 b0 d0 f0 g0"},
		// Ahead of all, behind all.
		{"3 b0|1 d0", "a0", "3 a0 b0|1 d0"},
		{"3 b1|1 d0", "b0", "3 b0 b1|1 d0"},
		{"3 b0|1 d0", "e0", "3 b0|1 d0 e0"},
		{"3 b0|1 d0", "d1", "3 b0|1 d0 d1"},
		// Between two pages it stands on the first one of them, though the second has room.
		{"3 b0|1 d0", "c0", "3 b0 c0|1 d0"},
		{"3 b0|1 d0", "b1", "3 b0 b1|1 d0"},
		{"3 b0|1 d5", "d4", "3 b0 d4|1 d5"},
		{"3 b0|1 d5", "d6", "3 b0|1 d5 d6"},
		{"3 a0 b0 c0|1 e0", "d0", "3 a0 b0 c0 d0|1 e0"},
		{"3 b0|4 d0|5 f0", "e0", "3 b0|4 d0 e0|5 f0"},
		{"3 b0|4 d0|5 f0", "d0000001", "3 b0|4 d0 d1|5 f0"},
		{"3 b0 b2|4 b5 b7|5 b9", "b6", "3 b0 b2|4 b5 b6 b7|5 b9"},
		{"3 b0 b2|4 b5 b7|5 b9", "b8", "3 b0 b2|4 b5 b7 b8|5 b9"},
		{"3 b0 b2|4 b5 b7|5 b9", "b4", "3 b0 b2 b4|4 b5 b7|5 b9"},
		{"3 b0 b2|4 b5 b7|5 b9", "b10", "3 b0 b2|4 b5 b7|5 b9 b10"},
	} {
		for _, next := range []int{8, 99999, 100000} {
			putIs(t, tree(next, r.x), entry(r.word), tree(next, r.want), 0, impl.OK)
		}
	}
	putIs(t, impl.NewTree(), entry("a0"), tree(2, "1 a0"), 0, impl.OK)
}

// A page of b1 d0 f0 h0, Number 3, is split by one more: 9 is Next.
func TestP6PutSplits(t *testing.T) {
	const full = "3 b1 d0 f0 h0"
	for _, r := range []struct{ word, want string }{
		{"a0", "3 a0 b1|9 d0 f0 h0"},
		{"b0", "3 b0 b1|9 d0 f0 h0"},
		{"b2", "3 b1 b2|9 d0 f0 h0"},
		{"c0", "3 b1 c0|9 d0 f0 h0"},
		{"d1", "3 b1 d0|9 d1 f0 h0"},
		{"e0", "3 b1 d0|9 e0 f0 h0"},
		{"g0", "3 b1 d0|9 f0 g0 h0"},
		{"h1", "3 b1 d0|9 f0 h0 h1"},
		{"i0", "3 b1 d0|9 f0 h0 i0"},
	} {
		// The new page stands right behind the old one, whatever stands behind that, and whatever
		// the Numbers are.
		for _, behind := range []string{"", "|1 k0", "|8 k0 k1 k2 k3", "|8 k0|1 m0 m1|5 n0"} {
			putIs(t, tree(9, full+behind), entry(r.word), tree(10, r.want+behind), 9, impl.OK)
			for _, ahead := range []string{"4 0|", "2 0 1 2 3|", "7 0|6 1|"} {
				// What is ahead of b1 would stand on the pages ahead of this one.
				if r.word > "b1" {
					putIs(t, tree(9, ahead+full+behind), entry(r.word), tree(10, ahead+r.want+behind), 9, impl.OK)
				}
			}
		}
	}
	// What falls between two pages splits the first one of them, if that is full.
	putIs(t, tree(9, "3 a0 b0 c0 d0|4 f0"), entry("e0"), tree(10, "3 a0 b0|9 c0 d0 e0|4 f0"), 9, impl.OK)
	putIs(t, tree(9, "3 a0 b0 c0 d0|4 f3"), entry("f2"), tree(10, "3 a0 b0|9 c0 d0 f2|4 f3"), 9, impl.OK)
	putIs(t, tree(9, "3 a0|4 c0 d0 e0 f0"), entry("b0"), tree(9, "3 a0 b0|4 c0 d0 e0 f0"), 0, impl.OK)
	putIs(t, tree(9, "3 a1 a3 a5 a7"), entry("a4"), tree(10, "3 a1 a3|9 a4 a5 a7"), 9, impl.OK)
}

func TestP6PutTwice(t *testing.T) {
	for _, x := range []impl.Tree{
		tree(2, "1 a0"), tree(9, "1 a0 a1 b0"), tree(9, "1 a0 b0 c0 d0"), tree(100000, "1 a0 b0 c0 d0"), tree(9, "3 a0 a1|1 b0 b1 b2 b3|2 c0"),
		manyPages(impl.MaxPages, impl.MaxPage, 61), manyPages(impl.MaxPages, impl.MaxPage, 100000), manyPages(impl.MaxPages, 1, 99),
	} {
		for _, p := range x.Pages {
			for _, e := range p.Entries {
				putIs(t, x, e, x, 0, impl.ErrTwice)
			}
		}
	}
	putIs(t, tree(9, "1 a0 b0"), entry("a1"), tree(9, "1 a0 a1 b0"), 0, impl.OK)
	putIs(t, tree(9, "1 a1 b0"), entry("a0"), tree(9, "1 a0 a1 b0"), 0, impl.OK)
	putIs(t, tree(9, "1 a0|2 b0"), entry("a9999"), tree(9, "1 a0 a9999|2 b0"), 0, impl.OK)
}

func TestP6PutWithMaxPages(t *testing.T) {
	for _, next := range []int{61, 100, 99999, 100000} {
		full, room := manyPages(impl.MaxPages, impl.MaxPage, next), manyPages(impl.MaxPages, impl.MaxPage, next)
		room.Pages[30].Entries = room.Pages[30].Entries[:3]
		into := impl.Entry{Key: room.Pages[30].Entries[1].Key, Id: 7}
		want := manyPages(impl.MaxPages, impl.MaxPage, next)
		old := want.Pages[30].Entries
		want.Pages[30].Entries = []impl.Entry{old[0], old[1], into, old[2]}
		putIs(t, room, into, want, 0, impl.OK)
		for i, x := range []impl.Tree{full, room} {
			for j, p := range x.Pages {
				if i == 1 && j == 30 {
					continue
				}
				putIs(t, x, impl.Entry{Key: p.Entries[0].Key, Id: 9}, x, 0, impl.ErrFull)
				putIs(t, x, impl.Entry{Key: p.Entries[3].Key + "x"}, x, 0, impl.ErrFull)
			}
			putIs(t, x, impl.Entry{}, x, 0, impl.ErrFull)
			putIs(t, x, impl.Entry{Key: "z"}, x, 0, impl.ErrFull)
		}
	}
}

// With one page fewer the last one that there is room for is made, and no other behind it.
func TestP6PutMakesTheLastPage(t *testing.T) {
	x := manyPages(impl.MaxPages-1, impl.MaxPage, 77)
	want := manyPages(impl.MaxPages-1, impl.MaxPage, 78)
	old := want.Pages[impl.MaxPages-2].Entries
	want.Pages[impl.MaxPages-2].Entries = old[:2]
	want.Pages = append(want.Pages, impl.Page{Number: 77, Entries: []impl.Entry{old[2], old[3], entry("z0")}})
	putIs(t, x, entry("z0"), want, 77, impl.OK)
	putIs(t, want, impl.Entry{}, want, 0, impl.ErrFull)
	more, n, code := impl.TreePut(want, entry("z1"))
	if n != 0 || code != impl.OK {
		t.Errorf("TreePut into the last page: %d, %d", n, code)
	}
	want.Pages[impl.MaxPages-1].Entries = append(want.Pages[impl.MaxPages-1].Entries, entry("z1"))
	if !sameTree(more, want) {
		t.Errorf("TreePut into the last page: %s", shownTree(more))
	}
	putIs(t, more, entry("z2"), more, 0, impl.ErrFull)
}

// A Next of 100000 is no page's Number: what needs a page has no room.
func TestP6PutWithLastNext(t *testing.T) {
	putIs(t, tree(99998, "1 a0 b0 c0 d0"), entry("e0"), tree(99999, "1 a0 b0|99998 c0 d0 e0"), 99998, impl.OK)
	putIs(t, tree(99999, "1 a0 b0 c0 d0"), entry("e0"), tree(100000, "1 a0 b0|99999 c0 d0 e0"), 99999, impl.OK)
	for _, word := range []string{"0", "a1", "b1", "c1", "e0"} {
		x := tree(100000, "1 a0 b0 c0 d0")
		putIs(t, x, entry(word), x, 0, impl.ErrFull)
	}
	x := tree(100000, "1 a0 b0|99999 c0 d0 e0")
	putIs(t, x, entry("f0"), tree(100000, "1 a0 b0|99999 c0 d0 e0 f0"), 0, impl.OK)
	putIs(t, x, entry("a1"), tree(100000, "1 a0 a1 b0|99999 c0 d0 e0"), 0, impl.OK)
	putIs(t, tree(100000, "1"), entry("a1"), tree(100000, "1 a1"), 0, impl.OK)
	x = tree(100000, "1 a0 b0|99999 c0 d0 e0 f0")
	putIs(t, x, entry("g0"), x, 0, impl.ErrFull)
	putIs(t, x, entry("b1"), tree(100000, "1 a0 b0 b1|99999 c0 d0 e0 f0"), 0, impl.OK)
	putIs(t, x, entry("f0"), x, 0, impl.ErrTwice)
}

func TestP6EntriesAtTheirBounds(t *testing.T) {
	long := strings.Repeat("k", 2000)
	for _, e := range []impl.Entry{{}, {Id: 9999}, {Key: long}, {Key: long, Id: 9999}, {Key: strings.Repeat("\x00", 2000), Id: 1}, {Key: strings.Repeat("\xff", 2000), Id: 1}} {
		x := impl.Tree{Pages: []impl.Page{{Number: 1, Entries: []impl.Entry{e}}}, Next: 2}
		putIs(t, impl.NewTree(), e, x, 0, impl.OK)
		putIs(t, x, e, x, 0, impl.ErrTwice)
		dropIs(t, x, e, impl.NewTree(), impl.OK)
		dropIs(t, impl.NewTree(), e, impl.NewTree(), impl.ErrNone)
	}
}

func TestP6WrongEntries(t *testing.T) {
	trees := []impl.Tree{impl.NewTree(), tree(9, "1 a0 b0|2 c0"), manyPages(impl.MaxPages, impl.MaxPage, 61), manyPages(impl.MaxPages, impl.MaxPage, 100000), tree(100000, "1 a0 b0 c0 d0")}
	long := strings.Repeat("k", impl.MaxText+1)
	var wrong []impl.Entry
	for _, id := range []int{-1, -2, 10000, 10001, 1 << 32, math.MinInt, math.MaxInt} {
		wrong = append(wrong, impl.Entry{Id: id}, impl.Entry{Key: "a", Id: id}, impl.Entry{Key: "z", Id: id}, impl.Entry{Key: long, Id: id})
	}
	for _, n := range []int{2001, 2002, 4096, 4097, impl.MaxText, impl.MaxText + 1} {
		wrong = append(wrong, impl.Entry{Key: long[:n]}, impl.Entry{Key: long[:n], Id: 9999})
	}
	for _, x := range trees {
		for _, e := range wrong {
			what := fmt.Sprintf("a Key of %d bytes, Id %d", len(e.Key), e.Id)
			if y, n, code := impl.TreePut(x, e); !isZeroTree(y) || n != 0 || code != impl.ErrBad {
				t.Errorf("TreePut of %s: %s, %d, %d", what, shownTree(y), n, code)
			}
			if y, code := impl.TreeDrop(x, e); !isZeroTree(y) || code != impl.ErrBad {
				t.Errorf("TreeDrop of %s: %s, %d", what, shownTree(y), code)
			}
			if n, code := impl.PageAt(x, e); n != 0 || code != impl.ErrBad {
				t.Errorf("PageAt of %s: %d, %d", what, n, code)
			}
		}
	}
}

func TestP6Drop(t *testing.T) {
	for _, r := range []struct{ x, word, want string }{
		{"1 a0", "a0", "1"},
		{"7 a9999", "a9999", "7"},
		{"1 a0 b0", "a0", "1 b0"},
		{"1 a0 b0", "b0", "1 a0"},
		{"1 a0 a1 a2", "a1", "1 a0 a2"},
		{"1 a0 b0 c0 d0", "a0", "1 b0 c0 d0"},
		{"1 a0 b0 c0 d0", "b0", "1 a0 c0 d0"},
		{"1 a0 b0 c0 d0", "c0", "1 a0 b0 d0"},
		{"1 a0 b0 c0 d0", "d0", "1 a0 b0 c0"},
		// A page's first, middle and last entry, beside other pages.
		{"3 a0 b0|5 c0 d0 e0|4 f0 g0", "c0", "3 a0 b0|5 d0 e0|4 f0 g0"},
		{"3 a0 b0|5 c0 d0 e0|4 f0 g0", "d0", "3 a0 b0|5 c0 e0|4 f0 g0"},
		{"3 a0 b0|5 c0 d0 e0|4 f0 g0", "e0", "3 a0 b0|5 c0 d0|4 f0 g0"},
		{"3 a0 b0|5 c0 d0 e0|4 f0 g0", "a0", "3 b0|5 c0 d0 e0|4 f0 g0"},
		{"3 a0 b0|5 c0 d0 e0|4 f0 g0", "g0", "3 a0 b0|5 c0 d0 e0|4 f0"},
		{"3 a0 a1|5 a2 a3|4 a4 a5", "a2", "3 a0 a1|5 a3|4 a4 a5"},
		// A page's only entry: the page goes, its Number with it.
		{"3 a0|5 c0 d0|4 f0", "a0", "5 c0 d0|4 f0"},
		{"3 a0|5 c0|4 f0", "c0", "3 a0|4 f0"},
		{"3 a0|5 c0 d0|4 f0", "f0", "3 a0|5 c0 d0"},
		{"3 a0|5 c0", "a0", "5 c0"},
		{"3 a0|5 c0", "c0", "3 a0"},
		{"3 a0 b0 c0 d0|5 e0|4 f0 g0 h0 i0", "e0", "3 a0 b0 c0 d0|4 f0 g0 h0 i0"},
		// Small pages don't join.
		{"3 a0 b0|5 c0|4 d0", "b0", "3 a0|5 c0|4 d0"},
	} {
		for _, next := range []int{8, 100000} {
			dropIs(t, tree(next, r.x), entry(r.word), tree(next, r.want), impl.OK)
		}
	}
	x := manyPages(impl.MaxPages, 1, 61)
	for i, p := range x.Pages {
		want := impl.Tree{Pages: append(append([]impl.Page{}, x.Pages[:i]...), x.Pages[i+1:]...), Next: 61}
		dropIs(t, x, p.Entries[0], want, impl.OK)
	}
}

func TestP6DropOfNone(t *testing.T) {
	for _, text := range []string{"1", "8", "1 b1", "1 b1 d1", "3 b1 d1|1 f1|5 h1 j1 l1 n1", "3 b1 b5|4 b7 d1"} {
		for _, word := range []string{"0", "a0", "a1", "b0", "b2", "b6", "b8", "c1", "d0", "d2", "e1", "f0", "f2", "g1", "h2", "n0", "n2", "z1", "bb1", "b9999"} {
			for _, next := range []int{9, 100000} {
				dropIs(t, tree(next, text), entry(word), tree(next, text), impl.ErrNone)
			}
		}
	}
}

// What was put and dropped again is put as if it had not been there, but for the Numbers.
func TestP6PutAndDropInTurn(t *testing.T) {
	x := impl.NewTree()
	step := func(put bool, word string, want impl.Tree, number int) {
		t.Helper()
		if put {
			putIs(t, x, entry(word), want, number, impl.OK)
		} else {
			dropIs(t, x, entry(word), want, impl.OK)
		}
		x = want
	}
	step(true, "d0", tree(2, "1 d0"), 0)
	step(true, "b0", tree(2, "1 b0 d0"), 0)
	step(true, "f0", tree(2, "1 b0 d0 f0"), 0)
	step(true, "h0", tree(2, "1 b0 d0 f0 h0"), 0)
	step(true, "a0", tree(3, "1 a0 b0|2 d0 f0 h0"), 2)
	step(true, "c0", tree(3, "1 a0 b0 c0|2 d0 f0 h0"), 0)
	step(true, "e0", tree(3, "1 a0 b0 c0|2 d0 e0 f0 h0"), 0)
	step(true, "g0", tree(4, "1 a0 b0 c0|2 d0 e0|3 f0 g0 h0"), 3)
	step(false, "d0", tree(4, "1 a0 b0 c0|2 e0|3 f0 g0 h0"), 0)
	// Its page begins with e0 now: d0 stands on the page ahead.
	step(true, "d0", tree(4, "1 a0 b0 c0 d0|2 e0|3 f0 g0 h0"), 0)
	step(false, "e0", tree(4, "1 a0 b0 c0 d0|3 f0 g0 h0"), 0)
	step(true, "e0", tree(5, "1 a0 b0|4 c0 d0 e0|3 f0 g0 h0"), 4)
	step(false, "a0", tree(5, "1 b0|4 c0 d0 e0|3 f0 g0 h0"), 0)
	step(false, "b0", tree(5, "4 c0 d0 e0|3 f0 g0 h0"), 0)
	step(true, "a0", tree(5, "4 a0 c0 d0 e0|3 f0 g0 h0"), 0)
	step(true, "b0", tree(6, "4 a0 b0|5 c0 d0 e0|3 f0 g0 h0"), 5)
	for _, word := range []string{"c0", "d0", "f0", "g0"} {
		y, code := impl.TreeDrop(x, entry(word))
		if code != impl.OK {
			t.Fatalf("TreeDrop of %s: %d", word, code)
		}
		x = y
	}
	step(false, "h0", tree(6, "4 a0 b0|5 e0"), 0)
	step(false, "e0", tree(6, "4 a0 b0"), 0)
	step(false, "b0", tree(6, "4 a0"), 0)
	step(false, "a0", tree(6, "4"), 0)
	step(true, "z0", tree(6, "4 z0"), 0)
}
