package tests

import (
	"fmt"
	"math"
	"slices"
	"strconv"
	"strings"
	"testing"

	"loop.example/g00380/impl"
)

// entry is of a key and an Id behind it: b12 is that of the Key b and the Id 12.
func entry(word string) impl.Entry {
	key := strings.TrimRight(word, "0123456789")
	id, err := strconv.Atoi(word[len(key):])
	if err != nil {
		panic(err)
	}
	return impl.Entry{Key: key, Id: id}
}

func entries(words string) []impl.Entry {
	var list []impl.Entry
	for _, word := range strings.Fields(words) {
		list = append(list, entry(word))
	}
	return list
}

// tree is of pages with lines between them, a page of its Number and its entries: 1 a0 b3|2 c0.
func tree(next int, text string) impl.Tree {
	t := impl.Tree{Next: next}
	for page := range strings.SplitSeq(text, "|") {
		number, rest, _ := strings.Cut(strings.TrimSpace(page), " ")
		n, err := strconv.Atoi(number)
		if err != nil {
			panic(err)
		}
		t.Pages = append(t.Pages, impl.Page{Number: n, Entries: entries(rest)})
	}
	return t
}

func samePage(p, q impl.Page) bool {
	return p.Number == q.Number && slices.Equal(p.Entries, q.Entries)
}

func sameTree(a, b impl.Tree) bool {
	return a.Next == b.Next && slices.EqualFunc(a.Pages, b.Pages, samePage)
}

func isZeroTree(x impl.Tree) bool { return len(x.Pages) == 0 && x.Next == 0 }

func shownTree(x impl.Tree) string {
	var b strings.Builder
	fmt.Fprintf(&b, "next %d:", x.Next)
	for _, p := range x.Pages {
		fmt.Fprintf(&b, " |%d", p.Number)
		for _, e := range p.Entries {
			fmt.Fprintf(&b, " %.20q.%d", e.Key, e.Id)
		}
	}
	return fmt.Sprintf("%.2000s", b.String())
}

// manyPages is a tree of n pages with so many entries each, room for keys between them.
func manyPages(n, each, next int) impl.Tree {
	t := impl.Tree{Next: next}
	for i := range n {
		p := impl.Page{Number: i + 1}
		for j := range each {
			p.Entries = append(p.Entries, impl.Entry{Key: fmt.Sprintf("k%04d.%d", i, j), Id: j})
		}
		t.Pages = append(t.Pages, p)
	}
	return t
}

// wrongTree holds all calls to it that a tree isn't right.
func wrongTree(t *testing.T, what string, x impl.Tree) {
	t.Helper()
	if impl.TreeOK(x) {
		t.Errorf("TreeOK, %s: %s is right", what, shownTree(x))
	}
	for _, e := range []impl.Entry{{}, {Key: "b", Id: 1}, {Id: -1}, {Key: strings.Repeat("k", 2001)}} {
		if y, n, code := impl.TreePut(x, e); !isZeroTree(y) || n != 0 || code != impl.ErrBad {
			t.Errorf("TreePut, %s: %s, %d, %d", what, shownTree(y), n, code)
		}
		if y, code := impl.TreeDrop(x, e); !isZeroTree(y) || code != impl.ErrBad {
			t.Errorf("TreeDrop, %s: %s, %d", what, shownTree(y), code)
		}
		if n, code := impl.PageAt(x, e); n != 0 || code != impl.ErrBad {
			t.Errorf("PageAt, %s: %d, %d", what, n, code)
		}
	}
	for _, i := range []impl.Interval{{}, from(""), between("a", "c"), openWith("b", "a")} {
		if list, pages, code := impl.TreeRange(x, i); len(list) != 0 || len(pages) != 0 || code != impl.ErrBad {
			t.Errorf("TreeRange, %s: %v, %v, %d", what, list, pages, code)
		}
	}
	if n, code := impl.TreeSize(x); n != 0 || code != impl.ErrBad {
		t.Errorf("TreeSize, %s: %d, %d", what, n, code)
	}
}

func rightTree(t *testing.T, what string, x impl.Tree) {
	t.Helper()
	if !impl.TreeOK(x) {
		t.Errorf("TreeOK, %s: %s is not right", what, shownTree(x))
	}
	want := 0
	for _, p := range x.Pages {
		want += len(p.Entries)
	}
	if n, code := impl.TreeSize(x); n != want || code != impl.OK {
		t.Errorf("TreeSize, %s: %d, %d, not %d", what, n, code, want)
	}
	if list, pages, code := impl.TreeRange(x, from("")); len(list) != want || len(pages) != len(x.Pages) || code != impl.OK {
		t.Errorf("TreeRange, %s: %d entries, %v, %d", what, len(list), pages, code)
	}
	if n, code := impl.PageAt(x, impl.Entry{}); n != x.Pages[0].Number || code != impl.OK {
		t.Errorf("PageAt, %s: %d, %d", what, n, code)
	}
	if y, code := impl.TreeDrop(x, impl.Entry{Key: "not there"}); !sameTree(x, y) || code != impl.ErrNone {
		t.Errorf("TreeDrop, %s: %s, %d", what, shownTree(y), code)
	}
}

// treeIs holds the calls to what TreeOK should say.
func treeIs(t *testing.T, what string, x impl.Tree, right bool) {
	t.Helper()
	if right {
		rightTree(t, what, x)
	} else {
		wrongTree(t, what, x)
	}
}

func TestP6NewTree(t *testing.T) {
	x := impl.NewTree()
	if !sameTree(x, tree(2, "1")) {
		t.Errorf("NewTree() = %s", shownTree(x))
	}
	rightTree(t, "a new one", x)
}

func TestP6TreePages(t *testing.T) {
	wrongTree(t, "zero", impl.Tree{})
	wrongTree(t, "no page", impl.Tree{Next: 2})
	wrongTree(t, "an empty list of pages", impl.Tree{Pages: []impl.Page{}, Next: 2})
	for _, r := range []struct {
		n     int
		right bool
	}{{1, true}, {2, true}, {impl.MaxPages - 1, true}, {impl.MaxPages, true}, {impl.MaxPages + 1, false}, {impl.MaxList, false}, {impl.MaxList + 1, false}} {
		treeIs(t, fmt.Sprint(r.n, " pages of one"), manyPages(r.n, 1, 5000), r.right)
		treeIs(t, fmt.Sprint(r.n, " pages of four"), manyPages(r.n, impl.MaxPage, 5000), r.right)
	}
}

func TestP6TreePageSizes(t *testing.T) {
	rightTree(t, "an empty page alone", tree(2, "1"))
	rightTree(t, "an empty page alone, of another Number", tree(90, "77"))
	rightTree(t, "an empty list of entries", impl.Tree{Pages: []impl.Page{{Number: 1, Entries: []impl.Entry{}}}, Next: 2})
	for _, text := range []string{"1|2 a0", "1 a0|2", "1 a0|2|3 b0", "1|2", "1|2|3", "1 a0 b0 c0 d0|2"} {
		wrongTree(t, "an empty page beside others", tree(9, text))
	}
	for n := 1; n <= impl.MaxPage+2; n++ {
		list := entries("b0 b1 b2 c0 d0 e0")[:n]
		pages := []impl.Page{{Number: 3, Entries: entries("a0")}, {Number: 1, Entries: list}, {Number: 2, Entries: entries("f0")}}
		for i, x := range []impl.Tree{{Pages: pages, Next: 4}, {Pages: pages[:2], Next: 4}, {Pages: pages[1:], Next: 4}, {Pages: pages[1:2], Next: 4}} {
			treeIs(t, fmt.Sprint(n, " entries, tree ", i), x, n <= impl.MaxPage)
		}
	}
	for _, n := range []int{impl.MaxList, impl.MaxList + 1, 10000} {
		wrongTree(t, fmt.Sprint(n, " entries"), manyPages(1, n, 2))
		wrongTree(t, fmt.Sprint("two pages, ", n, " entries"), manyPages(2, n, 9))
	}
}

func TestP6TreeOrder(t *testing.T) {
	for _, text := range []string{"1 a0 b0", "1 a0 a1", "1 a9 b0", "1 a0 aa0", "1 a0|2 b0", "1 a0|2 a1", "1 a9|2 b0", "1 a0 a1|2 a2 a3|3 a4", "1 0 1 a0", "1 0|2 a0", "1 A0 B0 Z0 _0|2 a0"} {
		rightTree(t, text, tree(9, text))
	}
	for _, text := range []string{
		"1 b0 a0", "1 a1 a0", "1 a0 a0", "1 aa0 a0", "1 a10 a9", "1 b0 a9", "1 a0 b0 b0", "1 a0 b0 a1", "1 a0 c0 b0 d0", "1 a0 b0 c0 c0", "1 a0 0",
		"1 b0|2 a0", "1 a1|2 a0", "1 a0|2 a0", "1 a0 c0|2 b0", "1 a0 b0|2 b0", "1 a0 b1|2 b0 c0", "1 a0|2 b0|3 b0", "1 a0|2 c0|3 b0", "1 a0|2 b0 c0|3 b1", "1 b0|2 c0|3 a0", "1 b0|2 b1 a0",
	} {
		wrongTree(t, text, tree(9, text))
	}
	// Keys are ordered byte by byte, whatever signs the bytes may be parts of.
	for i, key := range []string{"\x00", "a", "a\x00", "a\x00\xff", "a\x01", "a\x7f", "a\x80", "a\xff", "b", "\x7f", "\x80", "\xc3\xa9", "\xff", "\xff\x00", "\xff\xff"} {
		list := []impl.Entry{{Id: i}, {Key: key}}
		rightTree(t, "rising keys", impl.Tree{Pages: []impl.Page{{Number: 1, Entries: list}}, Next: 2})
		rightTree(t, "rising keys", impl.Tree{Pages: []impl.Page{{Number: 1, Entries: list[:1]}, {Number: 2, Entries: list[1:]}}, Next: 3})
		list = []impl.Entry{{Key: key, Id: i}, {Key: key + "\x00"}, {Key: key}}
		wrongTree(t, "falling keys", impl.Tree{Pages: []impl.Page{{Number: 1, Entries: list[1:]}}, Next: 2})
		wrongTree(t, "falling keys", impl.Tree{Pages: []impl.Page{{Number: 1, Entries: list[1:2]}, {Number: 2, Entries: list[2:]}}, Next: 3})
		rightTree(t, "rising keys", impl.Tree{Pages: []impl.Page{{Number: 1, Entries: list[:2]}}, Next: 2})
	}
}

// withEntry are trees that have the entry alone, first, in the middle or last on a page.
func withEntry(e impl.Entry) []impl.Tree {
	one := func(list ...impl.Entry) impl.Tree {
		return impl.Tree{Pages: []impl.Page{{Number: 1, Entries: list}}, Next: 2}
	}
	ahead, behind := impl.Entry{}, impl.Entry{Key: "z"}
	two := one(ahead)
	two.Pages, two.Next = append(two.Pages, impl.Page{Number: 2, Entries: []impl.Entry{e, behind}}), 3
	return []impl.Tree{one(e), one(e, behind), one(ahead, e), one(ahead, e, behind), two}
}

func TestP6TreeEntries(t *testing.T) {
	for _, n := range []int{1, 255, 1999, 2000, 2001, 2002, 4096, impl.MaxText, impl.MaxText + 1} {
		for _, x := range withEntry(impl.Entry{Key: strings.Repeat("k", n)}) {
			treeIs(t, fmt.Sprint("a Key of ", n, " bytes"), x, n <= 2000)
		}
	}
	for _, n := range []int{math.MinInt, -10000, -2, -1, 0, 1, 99, 9998, 9999, 10000, 10001, 1 << 32, math.MaxInt} {
		for _, x := range withEntry(impl.Entry{Key: "b", Id: n}) {
			treeIs(t, fmt.Sprint("an Id of ", n), x, 0 <= n && n <= 9999)
		}
	}
	wrongTree(t, "an Id of -1 of the empty Key", impl.Tree{Pages: []impl.Page{{Number: 1, Entries: []impl.Entry{{Id: -1}}}}, Next: 2})
	rightTree(t, "an Id of 0 of the empty Key", impl.Tree{Pages: []impl.Page{{Number: 1, Entries: []impl.Entry{{}}}}, Next: 2})
}

func TestP6TreeNumbers(t *testing.T) {
	for _, next := range []int{2, 3, 10, 99999, 100000} {
		for _, n := range []int{math.MinInt, -1, 0, 1, 2, next - 1, next, next + 1, 100000, math.MaxInt} {
			right := 1 <= n && n <= next-1
			treeIs(t, fmt.Sprint("Number ", n, " with Next ", next), impl.Tree{Pages: []impl.Page{{Number: n}}, Next: next}, right)
			x := tree(next, "6 a0|5 b0|7 c0")
			x.Pages[1].Number = n
			treeIs(t, fmt.Sprint("Number ", n, " in the middle with Next ", next), x, right && next > 7)
		}
	}
	for _, text := range []string{"1 a0|2 b0|3 c0", "3 a0|2 b0|1 c0", "8 a0|1 b0|5 c0", "2 a0|8 b0|1 c0"} {
		rightTree(t, text, tree(9, text))
	}
	for _, text := range []string{"1 a0|1 b0", "2 a0|1 b0|2 c0", "1 a0|2 b0|2 c0", "2 a0|2 b0|1 c0", "1 a0|9 b0", "9 a0|1 b0", "0 a0|1 b0", "1 a0|0 b0", "1 a0|10 b0"} {
		wrongTree(t, text, tree(9, text))
	}
	for i := range impl.MaxPages - 1 {
		x := manyPages(impl.MaxPages, 2, 100)
		x.Pages[impl.MaxPages-1].Number = x.Pages[i].Number
		wrongTree(t, fmt.Sprint("two Numbers alike, of the last page and of page ", i), x)
	}
}

func TestP6TreeNext(t *testing.T) {
	for _, next := range []int{math.MinInt, -1, 0, 1, 2, 3, 61, 99999, 100000, 100001, 100002, 1 << 32, 1<<32 + 2, math.MaxInt} {
		right := 2 <= next && next <= 100000
		treeIs(t, fmt.Sprint("Next ", next), tree(next, "1 a0"), right)
		treeIs(t, fmt.Sprint("Next ", next, " of an empty one"), tree(next, "1"), right)
		if next > math.MinInt {
			x := tree(next, "1 a0")
			x.Pages[0].Number = next - 1
			treeIs(t, fmt.Sprint("Next ", next, " and the Number ahead of it"), x, right)
		}
	}
}

func TestP6TreeSize(t *testing.T) {
	for _, r := range []struct {
		x    impl.Tree
		want int
	}{
		{impl.NewTree(), 0}, {tree(9, "8"), 0}, {tree(2, "1 a0"), 1}, {tree(2, "1 a0 b0 c0 d0"), 4}, {tree(9, "1 a0 b0|2 c0|3 d0 d1 d2"), 6},
		{manyPages(impl.MaxPages, 1, 99), impl.MaxPages}, {manyPages(impl.MaxPages, impl.MaxPage, 99), impl.MaxPages * impl.MaxPage},
	} {
		if n, code := impl.TreeSize(r.x); n != r.want || code != impl.OK {
			t.Errorf("TreeSize(%s) = %d, %d", shownTree(r.x), n, code)
		}
	}
}

func TestP6PageAt(t *testing.T) {
	x := tree(20, "7 b2 b4|3 d2 f0|12 f5 h0|1 j0")
	for word, want := range map[string]int{
		"0": 7, "a0": 7, "b0": 7, "b1": 7, "b2": 7, "b3": 7, "b4": 7, "b5": 7, "c0": 7, "cz9999": 7, "d0": 7, "d1": 7,
		"d2": 3, "d3": 3, "d9999": 3, "da0": 3, "e0": 3, "f0": 3, "f1": 3, "f4": 3,
		"f5": 12, "f6": 12, "g0": 12, "h0": 12, "h1": 12, "i9999": 12, "j0": 1, "j1": 1, "k0": 1, "zz9999": 1,
	} {
		if n, code := impl.PageAt(x, entry(word)); n != want || code != impl.OK {
			t.Errorf("PageAt of %s is %d, %d, not %d", word, n, code, want)
		}
	}
	for _, e := range []impl.Entry{{}, {Key: "a", Id: 3}, {Key: strings.Repeat("\xff", 2000), Id: 9999}} {
		if n, code := impl.PageAt(tree(9, "5"), e); n != 5 || code != impl.OK {
			t.Errorf("PageAt of an empty tree is %d, %d", n, code)
		}
		if n, code := impl.PageAt(tree(9, "5 m0"), e); n != 5 || code != impl.OK {
			t.Errorf("PageAt of one page is %d, %d", n, code)
		}
	}
	most := manyPages(impl.MaxPages, impl.MaxPage, 99)
	for _, p := range most.Pages {
		for _, e := range p.Entries {
			behind := impl.Entry{Key: e.Key + "x"}
			n, code := impl.PageAt(most, e)
			m, c := impl.PageAt(most, behind)
			if n != p.Number || m != p.Number || code != impl.OK || c != impl.OK {
				t.Errorf("PageAt of %v is %d, %d, of %v %d, %d, not %d", e, n, code, behind, m, c, p.Number)
			}
		}
	}
}
