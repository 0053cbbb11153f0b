package tests

import (
	"fmt"
	"math/rand"
	"slices"
	"strings"
	"testing"

	"loop.example/g00380/impl"
)

// A row is an entry in a plain sorted list, with the Number of the page that it should stand on.
type row struct {
	e    impl.Entry
	page int
}

// A plainTree is what the tests hold trees against: no pages, but rows that name theirs.
type plainTree struct {
	rows []row
	// The Number of an empty tree's page.
	empty, next int
}

func ahead(a, b impl.Entry) bool { return a.Key < b.Key || a.Key == b.Key && a.Id < b.Id }

// behindAll is how many rows stand ahead of e.
func (x *plainTree) behindAll(e impl.Entry) int {
	n := 0
	for n < len(x.rows) && ahead(x.rows[n].e, e) {
		n++
	}
	return n
}

func (x *plainTree) has(e impl.Entry) bool {
	return slices.ContainsFunc(x.rows, func(r row) bool { return r.e == e })
}

// pageOf is that of the last row that isn't behind e, or else the first one's.
func (x *plainTree) pageOf(e impl.Entry) int {
	number := x.empty
	if len(x.rows) > 0 {
		number = x.rows[0].page
	}
	for _, r := range x.rows {
		if !ahead(e, r.e) {
			number = r.page
		}
	}
	return number
}

func (x *plainTree) pages() []int {
	if len(x.rows) == 0 {
		return []int{x.empty}
	}
	var list []int
	for _, r := range x.rows {
		list = append(list, r.page)
	}
	return slices.Compact(list)
}

func (x *plainTree) on(page int) []impl.Entry {
	var list []impl.Entry
	for _, r := range x.rows {
		if r.page == page {
			list = append(list, r.e)
		}
	}
	return list
}

func (x *plainTree) tree() impl.Tree {
	t := impl.Tree{Next: x.next}
	for _, n := range x.pages() {
		t.Pages = append(t.Pages, impl.Page{Number: n, Entries: x.on(n)})
	}
	return t
}

func (x *plainTree) put(e impl.Entry) (int, int) {
	if x.has(e) {
		return 0, impl.ErrTwice
	}
	page := x.pageOf(e)
	split := len(x.on(page)) == 4
	if split && (len(x.pages()) == 60 || x.next == 100000) {
		return 0, impl.ErrFull
	}
	x.rows = slices.Insert(x.rows, x.behindAll(e), row{e, page})
	if !split {
		return 0, impl.OK
	}
	number, seen := x.next, 0
	x.next++
	for i := range x.rows {
		if x.rows[i].page == page {
			if seen++; seen > 2 {
				x.rows[i].page = number
			}
		}
	}
	return number, impl.OK
}

func (x *plainTree) drop(e impl.Entry) int {
	if !x.has(e) {
		return impl.ErrNone
	}
	x.empty = x.pageOf(e)
	x.rows = slices.DeleteFunc(x.rows, func(r row) bool { return r.e == e })
	return impl.OK
}

func (x *plainTree) between(i impl.Interval) ([]impl.Entry, []int) {
	var list []impl.Entry
	for _, r := range x.rows {
		if i.Low <= r.e.Key && (i.Open || r.e.Key < i.High) {
			list = append(list, r.e)
		}
	}
	pages := x.pages()
	start := slices.Index(pages, x.pageOf(impl.Entry{Key: i.Low, Id: -1}))
	numbers := []int{pages[start]}
	for _, n := range pages[start+1:] {
		if !i.Open && x.on(n)[0].Key >= i.High {
			break
		}
		numbers = append(numbers, n)
	}
	return list, numbers
}

// holdsAsked holds a tree to the plain one in what is asked of it.
func holdsAsked(t *testing.T, x impl.Tree, plain *plainTree, e impl.Entry, i impl.Interval) {
	t.Helper()
	list, pages, code := impl.TreeRange(x, i)
	if want, numbers := plain.between(i); !slices.Equal(list, want) || !slices.Equal(pages, numbers) || code != impl.OK {
		t.Fatalf("TreeRange(%s, %s) = %v, %v, %d, not %v, %v", shownTree(x), shown(i), list, pages, code, want, numbers)
	}
	if n, code := impl.PageAt(x, e); n != plain.pageOf(e) || code != impl.OK {
		t.Fatalf("PageAt(%s, %v) = %d, %d, not %d", shownTree(x), e, n, code, plain.pageOf(e))
	}
	if n, code := impl.TreeSize(x); n != len(plain.rows) || code != impl.OK {
		t.Fatalf("TreeSize(%s) = %d, %d, not %d", shownTree(x), n, code, len(plain.rows))
	}
}

// A treeRun is a long one of puts and drops: more puts than drops at first, then the other way.
type treeRun struct {
	r     *rand.Rand
	keys  []string
	ids   int
	steps int
	seen  map[int]int
}

func (run *treeRun) entry() impl.Entry {
	return impl.Entry{Key: pick(run.r, run.keys), Id: run.r.Intn(run.ids)}
}

func (run *treeRun) interval() impl.Interval {
	return impl.Interval{Low: pick(run.r, run.keys) + pick(run.r, []string{"", "", "\x00"}), High: pick(run.r, run.keys) + pick(run.r, []string{"", "", "\x00"}), Open: run.r.Intn(5) == 0}
}

// step puts or drops one entry in both, and tells the tree then.
func (run *treeRun) step(t *testing.T, x impl.Tree, plain *plainTree, put bool) impl.Tree {
	t.Helper()
	e := run.entry()
	if !put && len(plain.rows) > 0 && run.r.Intn(4) > 0 {
		e = pick(run.r, plain.rows).e
	}
	if put {
		number, code := plain.put(e)
		y, n, c := impl.TreePut(x, e)
		if n != number || c != code {
			t.Fatalf("TreePut(%s, %v) = %d, %d, not %d, %d", shownTree(x), e, n, c, number, code)
		}
		run.seen[code]++
		x = y
	} else {
		code := plain.drop(e)
		y, c := impl.TreeDrop(x, e)
		if c != code {
			t.Fatalf("TreeDrop(%s, %v) = %d, not %d", shownTree(x), e, c, code)
		}
		run.seen[code]++
		x = y
	}
	if !sameTree(x, plain.tree()) || !impl.TreeOK(x) {
		t.Fatalf("after %v, put %v: %s, not %s", e, put, shownTree(x), shownTree(plain.tree()))
	}
	// What was put is there, what was dropped is gone.
	list, _, _ := impl.TreeRange(x, between(e.Key, e.Key+"\x00"))
	if slices.Contains(list, e) != plain.has(e) {
		t.Fatalf("after %v, put %v: its range has %v", e, put, list)
	}
	return x
}

func (run *treeRun) run(t *testing.T, x impl.Tree, plain *plainTree) impl.Tree {
	t.Helper()
	for i := range run.steps {
		x = run.step(t, x, plain, run.r.Intn(10) < 8-6*i/run.steps)
		holdsAsked(t, x, plain, run.entry(), run.interval())
	}
	for len(plain.rows) > 0 {
		x = run.step(t, x, plain, false)
	}
	return x
}

func manyKeys(n int) []string {
	var list []string
	for i := range n {
		list = append(list, fmt.Sprintf("%03d", i))
	}
	return list
}

func TestP6LongRuns(t *testing.T) {
	closeKeys := []string{"", "\x00", "\x00\x00", "a", "a\x00", "a\x00\xff", "a\xff", "aa", "b", "\xfe", "\xff", "\xff\x00", "\xff\xff", strings.Repeat("a", 2000), strings.Repeat("a", 1999) + "b"}
	for seed := range int64(12) {
		for _, run := range []*treeRun{
			{keys: closeKeys, ids: 3, steps: 300},
			{keys: closeKeys, ids: 10000, steps: 400},
			{keys: []string{"k"}, ids: 40, steps: 300},
			{keys: manyKeys(30), ids: 2, steps: 400},
		} {
			run.r, run.seen = rand.New(rand.NewSource(seed)), map[int]int{}
			plain := &plainTree{empty: 1, next: 2}
			x := run.run(t, impl.NewTree(), plain)
			if n, _ := impl.TreeSize(x); n != 0 || len(x.Pages) != 1 || x.Next != plain.next || run.seen[impl.OK] < 100 || run.seen[impl.ErrTwice] == 0 && run.ids < 100 {
				t.Errorf("a run ends with %s, codes %v", shownTree(x), run.seen)
			}
		}
	}
}

func TestP6RunsToTheLastPage(t *testing.T) {
	for seed := range int64(3) {
		run := &treeRun{r: rand.New(rand.NewSource(seed)), keys: manyKeys(999), ids: 2, steps: 1200, seen: map[int]int{}}
		plain := &plainTree{empty: 1, next: 2}
		run.run(t, impl.NewTree(), plain)
		if run.seen[impl.ErrFull] < 10 || run.seen[impl.OK] < 500 {
			t.Errorf("a run has the codes %v", run.seen)
		}
	}
}

func TestP6RunsToTheLastNumber(t *testing.T) {
	for seed := range int64(6) {
		run := &treeRun{r: rand.New(rand.NewSource(seed)), keys: manyKeys(60), ids: 2, steps: 500, seen: map[int]int{}}
		plain := &plainTree{empty: 3, next: 99994}
		x := run.run(t, tree(99994, "3"), plain)
		if run.seen[impl.ErrFull] < 5 || run.seen[impl.OK] < 50 || x.Next != 100000 {
			t.Errorf("a run ends with %s, codes %v", shownTree(x), run.seen)
		}
	}
}

// Rising and falling, the entries come out in their order, whatever pages they came to stand on.
func TestP6RisingAndFallingPuts(t *testing.T) {
	list := []impl.Entry{}
	for i := range 110 {
		list = append(list, impl.Entry{Key: fmt.Sprintf("%03d", i/2), Id: i % 2})
	}
	for _, falls := range []bool{false, true} {
		x, plain := impl.NewTree(), &plainTree{empty: 1, next: 2}
		for i := range list {
			e := list[i]
			if falls {
				e = list[len(list)-1-i]
			}
			y, n, code := impl.TreePut(x, e)
			if number, c := plain.put(e); n != number || code != c || code != impl.OK || !sameTree(y, plain.tree()) {
				t.Fatalf("TreePut(%s, %v) = %s, %d, %d", shownTree(x), e, shownTree(y), n, code)
			}
			x = y
		}
		if got, _, code := impl.TreeRange(x, from("")); !slices.Equal(got, list) || code != impl.OK {
			t.Errorf("TreeRange of all: %v, %d", got, code)
		}
	}
}

// The keys of values are found by the intervals of the terms that let the values in.
func TestP6TermsFindTheirKeys(t *testing.T) {
	x := impl.NewTree()
	nodes := closeNodes()
	for i, v := range nodes[:min(len(nodes), 100)] {
		y, _, code := impl.TreePut(x, impl.Entry{Key: mustKey(t, v.value(), false), Id: i})
		if code != impl.OK {
			t.Fatalf("TreePut of %v: %d", v, code)
		}
		x = y
	}
	for i, v := range nodes[:min(len(nodes), 100)] {
		for _, op := range []int{impl.TeEq, impl.TeLte, impl.TeGte} {
			span, _ := impl.TermInterval(term(op, "a", v.value()), false)
			list, pages, code := impl.TreeRange(x, span)
			e := impl.Entry{Key: mustKey(t, v.value(), false), Id: i}
			page, _ := impl.PageAt(x, e)
			if !slices.Contains(list, e) || !slices.Contains(pages, page) || code != impl.OK {
				t.Errorf("%s %v finds %v on %v, %d", termNames[op], v, list, pages, code)
			}
		}
	}
}

// treeRight is TreeOK in other words.
func treeRight(x impl.Tree) bool {
	numbers := map[int]int{}
	all := []impl.Entry{}
	for _, p := range x.Pages {
		numbers[p.Number]++
		all = append(all, p.Entries...)
		if p.Number <= 0 || p.Number >= x.Next || numbers[p.Number] > 1 || len(p.Entries) > 4 {
			return false
		}
		if len(p.Entries) == 0 && len(x.Pages) != 1 {
			return false
		}
	}
	for i, e := range all {
		if e.Id < 0 || e.Id > 9999 || len(e.Key) > 2000 || i > 0 && !ahead(all[i-1], e) {
			return false
		}
	}
	return len(x.Pages) >= 1 && len(x.Pages) <= 60 && x.Next >= 2 && x.Next <= 100000
}

// junkTree is a right tree with a few things in it changed.
func junkTree(r *rand.Rand) impl.Tree {
	plain := &plainTree{empty: 1, next: 2 + r.Intn(3)}
	for range r.Intn(24) {
		plain.put(impl.Entry{Key: pick(r, []string{"", "a", "b", "c", "d"}), Id: r.Intn(4)})
	}
	x := plain.tree()
	for range r.Intn(3) {
		at := r.Intn(len(x.Pages))
		p := &x.Pages[at]
		switch n := len(p.Entries); {
		case r.Intn(6) == 0:
			p.Number = r.Intn(12) - 1
		case r.Intn(6) == 0:
			x.Next = pick(r, []int{-1, 0, 1, 2, 3, 5, 9, 100000, 100001})
		case n > 0 && r.Intn(3) == 0:
			p.Entries[r.Intn(n)].Id = pick(r, []int{-1, 0, 1, 2, 3, 9999, 10000})
		case n > 0 && r.Intn(3) == 0:
			p.Entries[r.Intn(n)].Key = pick(r, []string{"", "a", "b", "bb", strings.Repeat("c", 2000), strings.Repeat("c", 2001)})
		case n > 0 && r.Intn(2) == 0:
			p.Entries = slices.Delete(p.Entries, 0, 1)
		default:
			p.Entries = append(p.Entries, impl.Entry{Key: pick(r, []string{"a", "c", "e"}), Id: 5 + r.Intn(3)})
		}
	}
	return x
}

func TestP6ChangedTrees(t *testing.T) {
	r := rand.New(rand.NewSource(66))
	seen := map[bool]int{}
	for range 6000 {
		x := junkTree(r)
		right := treeRight(x)
		seen[right]++
		treeIs(t, "a changed tree", x, right)
	}
	if seen[true] < 1000 || seen[false] < 1000 {
		t.Errorf("right and not: %v", seen)
	}
}
