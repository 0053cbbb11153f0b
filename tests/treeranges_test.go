package tests

import (
	"slices"
	"strings"
	"testing"

	"loop.example/g00380/impl"
)

type rangeRow struct {
	i     impl.Interval
	words string
	pages []int
}

func rangesAre(t *testing.T, x impl.Tree, rows []rangeRow) {
	t.Helper()
	for _, r := range rows {
		list, pages, code := impl.TreeRange(x, r.i)
		if !slices.Equal(list, entries(r.words)) || !slices.Equal(pages, r.pages) || code != impl.OK {
			t.Errorf("TreeRange(%s, %s) = %v, %v, %d, not %s, %v", shownTree(x), shown(r.i), list, pages, code, r.words, r.pages)
		}
	}
}

// The pages begin with b, f and j; their Numbers neither rise nor fall.
func threePages() impl.Tree { return tree(30, "20 b0 c0 d0|7 f0 g0|12 j0 k0 l0") }

func TestP6RangeLow(t *testing.T) {
	rangesAre(t, threePages(), []rangeRow{
		{from(""), "b0 c0 d0 f0 g0 j0 k0 l0", []int{20, 7, 12}},
		{from("a"), "b0 c0 d0 f0 g0 j0 k0 l0", []int{20, 7, 12}},
		{from("b"), "b0 c0 d0 f0 g0 j0 k0 l0", []int{20, 7, 12}},
		{from("b\x00"), "c0 d0 f0 g0 j0 k0 l0", []int{20, 7, 12}},
		{from("d"), "d0 f0 g0 j0 k0 l0", []int{20, 7, 12}},
		{from("e"), "f0 g0 j0 k0 l0", []int{20, 7, 12}},
		// Just ahead of a page's first Key, at it, and just behind it: an Id of -1 is ahead of all.
		{from("e\xff\xff"), "f0 g0 j0 k0 l0", []int{20, 7, 12}},
		{from("f"), "f0 g0 j0 k0 l0", []int{20, 7, 12}},
		{from("f\x00"), "g0 j0 k0 l0", []int{7, 12}},
		{from("g"), "g0 j0 k0 l0", []int{7, 12}},
		{from("h"), "j0 k0 l0", []int{7, 12}},
		{from("j"), "j0 k0 l0", []int{7, 12}},
		{from("j\x00"), "k0 l0", []int{12}},
		{from("l"), "l0", []int{12}},
		{from("l\x00"), "", []int{12}},
		{from("z"), "", []int{12}},
		{from(strings.Repeat("\xff", impl.MaxText+1)), "", []int{12}},
		{from("f" + strings.Repeat("\x00", impl.MaxText+1)), "g0 j0 k0 l0", []int{7, 12}},
	})
}

func TestP6RangeHigh(t *testing.T) {
	rangesAre(t, threePages(), []rangeRow{
		{between("", "a"), "", []int{20}},
		{between("", "b"), "", []int{20}},
		{between("", "b\x00"), "b0", []int{20}},
		{between("", "d"), "b0 c0", []int{20}},
		{between("", "e"), "b0 c0 d0", []int{20}},
		// Just ahead of a page's first Key, at it, and just behind it.
		{between("", "e\xff\xff"), "b0 c0 d0", []int{20}},
		{between("", "f"), "b0 c0 d0", []int{20}},
		{between("", "f\x00"), "b0 c0 d0 f0", []int{20, 7}},
		{between("", "g"), "b0 c0 d0 f0", []int{20, 7}},
		{between("", "i"), "b0 c0 d0 f0 g0", []int{20, 7}},
		{between("", "j"), "b0 c0 d0 f0 g0", []int{20, 7}},
		{between("", "j\x00"), "b0 c0 d0 f0 g0 j0", []int{20, 7, 12}},
		{between("", "l"), "b0 c0 d0 f0 g0 j0 k0", []int{20, 7, 12}},
		{between("", "l\x00"), "b0 c0 d0 f0 g0 j0 k0 l0", []int{20, 7, 12}},
		{between("", strings.Repeat("\xff", impl.MaxText+1)), "b0 c0 d0 f0 g0 j0 k0 l0", []int{20, 7, 12}},
		{between("", "f"+strings.Repeat("\x00", impl.MaxText+1)), "b0 c0 d0 f0", []int{20, 7}},
	})
}

func TestP6RangeLowAndHigh(t *testing.T) {
	rangesAre(t, threePages(), []rangeRow{
		{between("c", "g"), "c0 d0 f0", []int{20, 7}},
		{between("c", "d"), "c0", []int{20}},
		{between("e", "f"), "", []int{20}},
		{between("e", "f\x00"), "f0", []int{20, 7}},
		{between("f", "f\x00"), "f0", []int{20, 7}},
		{between("f", "g"), "f0", []int{20, 7}},
		{between("f\x00", "g"), "", []int{7}},
		{between("f\x00", "j"), "g0", []int{7}},
		{between("g", "h"), "g0", []int{7}},
		{between("g", "k"), "g0 j0", []int{7, 12}},
		{between("h", "i"), "", []int{7}},
		{between("k", "z"), "k0 l0", []int{12}},
		{between("m", "z"), "", []int{12}},
		{between("a", "aa"), "", []int{20}},
		// High at Low or below it: the page of Low alone.
		{between("", ""), "", []int{20}},
		{between("b", "b"), "", []int{20}},
		{between("c", "c"), "", []int{20}},
		{between("f", "f"), "", []int{20}},
		{between("f\x00", "f\x00"), "", []int{7}},
		{between("f\x00", "f"), "", []int{7}},
		{between("g", "b"), "", []int{7}},
		{between("g", ""), "", []int{7}},
		{between("k", "a"), "", []int{12}},
		{between("j", "f"), "", []int{7}},
		{between("z", "z"), "", []int{12}},
		{between("z", ""), "", []int{12}},
	})
}

// Of an Open one High counts for nothing.
func TestP6RangeOpen(t *testing.T) {
	x := threePages()
	for _, low := range []string{"", "b", "c", "f", "f\x00", "h", "j", "j\x00", "l", "z"} {
		want, numbers, code := impl.TreeRange(x, from(low))
		for _, high := range []string{"", "a", "b", "f", "f\x00", "j", "l", "z", "\xff\xff", strings.Repeat("\xff", impl.MaxText+1)} {
			list, pages, c := impl.TreeRange(x, openWith(low, high))
			if !slices.Equal(list, want) || !slices.Equal(pages, numbers) || code != impl.OK || c != impl.OK {
				t.Errorf("TreeRange(%s) = %v, %v, %d, not %v, %v", shown(openWith(low, high)), list, pages, c, want, numbers)
			}
		}
	}
}

func TestP6RangeOfAlikeKeys(t *testing.T) {
	// One Key on all pages.
	rangesAre(t, tree(9, "4 b0 b1|2 b2 b3|7 b4"), []rangeRow{
		{between("b", "c"), "b0 b1 b2 b3 b4", []int{4, 2, 7}},
		{between("a", "b"), "", []int{4}},
		{between("b", "b"), "", []int{4}},
		{between("b", "b\x00"), "b0 b1 b2 b3 b4", []int{4, 2, 7}},
		{between("b\x00", "c"), "", []int{7}},
		{from("b"), "b0 b1 b2 b3 b4", []int{4, 2, 7}},
		{from("b\x00"), "", []int{7}},
	})
	// A Key that begins on one page and ends on another.
	rangesAre(t, tree(9, "4 a0 b0|2 b1 b2 c0|7 c1 d0"), []rangeRow{
		{between("b", "c"), "b0 b1 b2", []int{4, 2}},
		{between("c", "d"), "c0 c1", []int{2, 7}},
		{between("b", "d"), "b0 b1 b2 c0 c1", []int{4, 2, 7}},
		{between("a", "b"), "a0", []int{4}},
		{between("c", "c"), "", []int{2}},
		{between("b\x00", "c"), "", []int{2}},
		{from("c"), "c0 c1 d0", []int{2, 7}},
		{from("d"), "d0", []int{7}},
	})
	// The empty Key, too.
	rangesAre(t, tree(9, "4 0 1|2 2 a0|7 a1"), []rangeRow{
		{between("", "a"), "0 1 2", []int{4, 2}},
		{between("", "\x00"), "0 1 2", []int{4, 2}},
		{between("", ""), "", []int{4}},
		{between("\x00", "b"), "a0 a1", []int{2, 7}},
		{from(""), "0 1 2 a0 a1", []int{4, 2, 7}},
	})
}

func TestP6RangeOfSmallTrees(t *testing.T) {
	for _, i := range []impl.Interval{{}, from(""), from("b"), between("", "z"), between("b", "a"), openWith("z", "a"), between("", ""), from(strings.Repeat("k", impl.MaxText+1))} {
		rangesAre(t, impl.NewTree(), []rangeRow{{i, "", []int{1}}})
		rangesAre(t, tree(99, "57"), []rangeRow{{i, "", []int{57}}})
	}
	rangesAre(t, tree(9, "5 b3"), []rangeRow{
		{from(""), "b3", []int{5}}, {from("b"), "b3", []int{5}}, {from("b\x00"), "", []int{5}}, {between("a", "b"), "", []int{5}},
		{between("b", "b"), "", []int{5}}, {between("b", "c"), "b3", []int{5}}, {between("c", "d"), "", []int{5}}, {between("", "a"), "", []int{5}},
	})
}

func TestP6RangeOfManyPages(t *testing.T) {
	x := manyPages(impl.MaxPages, impl.MaxPage, 61)
	for i := range impl.MaxPages {
		for j := i; j < impl.MaxPages; j++ {
			// From the second entry of a page up to the second one of another.
			low, high := x.Pages[i].Entries[1].Key, x.Pages[j].Entries[1].Key
			list, pages, code := impl.TreeRange(x, between(low, high))
			if len(list) != impl.MaxPage*(j-i) || len(pages) != j-i+1 || code != impl.OK {
				t.Fatalf("TreeRange from page %d to page %d: %d entries, %v, %d", i, j, len(list), pages, code)
			}
			if pages[0] != i+1 || pages[len(pages)-1] != j+1 || len(list) > 0 && list[0].Key != low {
				t.Fatalf("TreeRange from page %d to page %d: %v, %v", i, j, list, pages)
			}
		}
	}
}
