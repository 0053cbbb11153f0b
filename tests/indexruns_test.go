package tests

import (
	"fmt"
	"math/rand"
	"slices"
	"testing"

	"loop.example/g00380/impl"
)

func TestP7HoldsItsDocuments(t *testing.T) {
	docs := []node{listed(1, "a", "b"), listed(2, "b"), listed(5), listed(9, "c", "a", "d")}
	x := buildIs(t, "four documents", def("one", "d.v"), docs, impl.OK)
	for i := range docs {
		less := slices.Delete(slices.Clone(docs), i, i+1)
		holdsIs(t, fmt.Sprint("without document ", i), x, values(less), false)
		for _, other := range []node{listed(docs[i].id(), "z"), listed(docs[i].id(), "a"), listed(docs[i].id(), "a", "b", "c", "d")} {
			changed := slices.Clone(docs)
			changed[i] = other
			holdsIs(t, fmt.Sprint("with ", other), x, values(changed), false)
		}
	}
	for _, more := range []node{listed(0, "a"), listed(0), listed(3, "b"), listed(10, "z"), listed(99)} {
		list := append(slices.Clone(docs), more)
		slices.SortFunc(list, func(a, b node) int { return a.id() - b.id() })
		holdsIs(t, fmt.Sprint("and ", more), x, values(list), false)
	}
	holdsIs(t, "none of them", x, nil, false)
	// The order of a document's keys, and what else it has, is not the index's affair.
	same := []node{listed(1, "b", "a", "b"), record("a", num(1), "d", record("v", word("b")), "id", num(2)), record("id", num(5)), listed(9, "a", "c", "d")}
	holdsIs(t, "the same keys", x, values(same), true)
	holdsIs(t, "by another definition", impl.Index{Def: def("one", "-d.v"), Tree: x.Tree}, values(docs), false)
	holdsIs(t, "by another definition", impl.Index{Def: def("one", "d.v", "no"), Tree: x.Tree}, values(docs), false)
	holdsIs(t, "by another name", impl.Index{Def: def("other", "d.v"), Tree: x.Tree}, values(docs), true)
	holdsIs(t, "no document in an empty one", textIndex(2, "1"), nil, true)
	holdsIs(t, "no document in an empty one", textIndex(100000, "77"), []impl.Value{}, true)
	holdsIs(t, "a document in an empty one", textIndex(2, "1"), values(docs[2:3]), false)
	holdsIs(t, "an entry of no document", textIndex(2, "1 a0"), nil, false)
}

// However the entries came to stand on their pages, it is they that count.
func TestP7HoldsWhateverThePages(t *testing.T) {
	docs := values([]node{listed(1, "a", "b"), listed(2, "b", "c"), listed(3, "a")})
	for _, text := range []string{"1 a1 a3 b1 b2|2 c2", "1 a1 a3|2 b1 b2 c2", "2 a1|1 a3|4 b1|3 b2|7 c2"} {
		for _, next := range []int{8, 100000} {
			holdsIs(t, text, textIndex(next, text), docs, true)
		}
	}
	for _, text := range []string{
		// One entry more: of another key, of another id, of no document's id.
		"1 a1 a3 b1 b2|2 bb1 c2", "1 a1 a2 a3|2 b1 b2 c2", "1 a1 a3 b1 b2|2 b3 c2", "1 a1 a3 b1 b2|2 c2 c9999", "1 a1 a3 a4|2 b1 b2 c2", "1 a0 a1 a3|2 b1 b2 c2",
		// One less.
		"1 a3 b1 b2|2 c2", "1 a1 b1 b2|2 c2", "1 a1 a3 b2|2 c2", "1 a1 a3 b1|2 c2", "1 a1 a3 b1 b2",
		// One of another Id, or of another key, instead.
		"1 a1 a3 b1 b2|2 c1", "1 a1 a3 b1 b2|2 c3", "1 a1 a2 b1 b2|2 c2", "1 a3 a4|2 b1 b2 c2", "1 a1 a3 b2 b3|2 c2", "1 a1 a3 b1 b2|2 d2", "1 a1 a3 b1 b2|2 cc2", "1 a1 a3 b1 b2|2 c102",
	} {
		holdsIs(t, text, textIndex(9, text), docs, false)
	}
}

// pool are documents of ids below 20, of which paths a, b and b.c come to nothing, one and several.
func pool(r *rand.Rand, n int) []node {
	var list []node
	leaf := func() node {
		return pick(r, []node{{}, num(1), num(2), num(3), word(""), word("a"), many(), many(num(1))})
	}
	several := func() node {
		x := many()
		for range r.Intn(4) {
			x.items = append(x.items, leaf())
		}
		return x
	}
	for len(list) < n {
		x := record("id", num(r.Intn(impl.MaxDocs)))
		b := pick(r, []node{leaf(), several(), record("c", leaf()), record("c", several()), many(record("c", leaf()), record("c", several()), leaf())})
		if r.Intn(5) > 0 {
			x.names, x.items = slices.Insert(x.names, 0, "b"), slices.Insert(x.items, 0, b)
		}
		if r.Intn(5) > 0 {
			x.names, x.items = slices.Insert(x.names, 0, "a"), slices.Insert(x.items, 0, pick(r, []node{leaf(), several(), several()}))
		}
		if x.fits() {
			list = append(list, x)
		}
	}
	return list
}

// An indexRun adds and removes documents, beside a plain tree and a plain list of documents.
type indexRun struct {
	r     *rand.Rand
	x     impl.Index
	plain *plainTree
	// By their ids, which rise.
	docs []node
	seen map[string]int
}

func (run *indexRun) place(id int) (int, bool) {
	return slices.BinarySearchFunc(run.docs, id, func(x node, id int) int { return x.id() - id })
}

func (run *indexRun) add(t *testing.T, doc node) {
	t.Helper()
	next, code := run.plain.add(doc.entriesAt(run.x.Def))
	run.x = addIs(t, doc.String(), run.x, doc, next.tree(), code)
	run.plain = next
	run.seen[fmt.Sprint("add ", impl.CodeWord(code))]++
}

func (run *indexRun) remove(t *testing.T, doc node) {
	t.Helper()
	next, code := run.plain.remove(doc.entriesAt(run.x.Def))
	run.x = removeIs(t, doc.String(), run.x, doc, next.tree(), code)
	run.plain = next
	run.seen[fmt.Sprint("remove ", impl.CodeWord(code))]++
}

// change adds a document of an id that is free, or removes the one that is there, or asks for what
// must be refused, as some of the document's keys are there, or some are not.
func (run *indexRun) change(t *testing.T, doc node) {
	t.Helper()
	at, there := run.place(doc.id())
	switch {
	case !there:
		before := run.x
		run.add(t, doc)
		if !sameTree(before.Tree, run.x.Tree) {
			run.docs = slices.Insert(run.docs, at, doc)
		}
	case run.r.Intn(2) == 0:
		run.remove(t, run.docs[at])
		run.docs = slices.Delete(run.docs, at, at+1)
	default:
		list := doc.entriesAt(run.x.Def)
		if slices.ContainsFunc(list, run.plain.has) {
			run.add(t, doc)
		}
		if slices.ContainsFunc(list, func(e impl.Entry) bool { return !run.plain.has(e) }) {
			run.remove(t, doc)
		}
	}
	if !impl.TreeOK(run.x.Tree) {
		t.Fatalf("after %v: %s is not right", doc, shownIndex(run.x))
	}
}

// isBuiltAnew holds the index to one of the documents that are left.
func (run *indexRun) isBuiltAnew(t *testing.T) {
	t.Helper()
	holdsIs(t, "what is left", run.x, values(run.docs), true)
	anew, code := impl.BuildIndex(run.x.Def, values(run.docs))
	if code == impl.ErrFull {
		return
	}
	list, _, _ := impl.TreeRange(run.x.Tree, from(""))
	want, _, _ := impl.TreeRange(anew.Tree, from(""))
	if code != impl.OK || !slices.Equal(list, want) {
		t.Fatalf("%v: %v is left, not %v, %d", run.docs, list, want, code)
	}
	if len(run.docs) > 0 {
		holdsIs(t, "one document less", run.x, values(run.docs[1:]), false)
	}
}

func TestP7LongRuns(t *testing.T) {
	seen := map[string]int{}
	for seed := range int64(4) {
		for _, paths := range [][]string{{"a"}, {"-a"}, {"b.c"}, {"-b.c"}, {"a", "b.c"}, {"a", "-b"}, {"-b", "a"}, {"-a", "-b.c"}, {"no", "a"}} {
			r := rand.New(rand.NewSource(seed))
			run := &indexRun{r: r, x: impl.Index{Def: def("one", paths...), Tree: impl.NewTree()}, plain: newPlainTree(), seen: seen}
			for _, doc := range pool(r, 300) {
				run.change(t, doc)
				run.isBuiltAnew(t)
			}
			for len(run.docs) > 0 {
				at := r.Intn(len(run.docs))
				run.remove(t, run.docs[at])
				run.remove(t, run.docs[at])
				run.docs = slices.Delete(run.docs, at, at+1)
				run.isBuiltAnew(t)
			}
			if n, _ := impl.TreeSize(run.x.Tree); n != 0 || len(run.x.Tree.Pages) != 1 {
				t.Errorf("a run ends with %s", shownIndex(run.x))
			}
		}
	}
	for _, what := range []string{"add ok", "add twice", "remove ok", "remove none"} {
		if seen[what] < 100 {
			t.Errorf("%s: %d times only", what, seen[what])
		}
	}
}

// Great documents, so that there is often no room for all keys of one.
func TestP7RunsWithoutRoom(t *testing.T) {
	seen := map[string]int{}
	for seed := range int64(6) {
		r := rand.New(rand.NewSource(seed))
		run := &indexRun{r: r, x: impl.Index{Def: def("one", "d.v"), Tree: impl.NewTree()}, plain: newPlainTree(), seen: seen}
		for range 300 {
			var keys []string
			for range 5 + r.Intn(16) {
				keys = append(keys, fmt.Sprint(r.Intn(1000)))
			}
			run.change(t, listed(r.Intn(impl.MaxDocs), keys...))
			run.isBuiltAnew(t)
		}
	}
	if seen["add full"] < 50 || seen["add ok"] < 100 || seen["remove ok"] < 100 {
		t.Errorf("a run has %v", seen)
	}
}

// orders are all in which so many things may come.
func orders(n int) [][]int {
	if n == 0 {
		return [][]int{nil}
	}
	var list [][]int
	for _, ahead := range orders(n - 1) {
		for at := range n {
			list = append(list, slices.Insert(slices.Clone(ahead), at, n-1))
		}
	}
	return list
}

// In whatever order documents come and go, the index has just the keys of those that are there.
func TestP7AllOrders(t *testing.T) {
	docs := []node{
		record("a", many(num(1), num(2), num(1)), "b", word("x"), "id", num(3)),
		record("a", num(1), "b", many(), "id", num(4)),
		record("b", many(word("x"), many(word("x"))), "id", num(5)),
		record("a", many(many(num(1)), num(2)), "id", num(6)),
		record("a", many(num(1), num(2), num(1)), "b", word("x"), "id", num(7)),
	}
	for _, paths := range [][]string{{"a"}, {"-b", "a"}} {
		d := def("one", paths...)
		for _, comes := range orders(len(docs)) {
			x := impl.Index{Def: d, Tree: impl.NewTree()}
			there := []node{}
			change := func(i int, add bool) {
				t.Helper()
				code := impl.OK
				if add {
					x, code = impl.IndexAdd(x, docs[i].value())
					there = append(there, docs[i])
				} else {
					x, code = impl.IndexRemove(x, docs[i].value())
					there = slices.DeleteFunc(there, func(y node) bool { return y.id() == docs[i].id() })
				}
				slices.SortFunc(there, func(a, b node) int { return a.id() - b.id() })
				if code != impl.OK {
					t.Fatalf("%v, document %d: %d", comes, i, code)
				}
				holdsIs(t, fmt.Sprint(comes, " at ", i), x, values(there), true)
			}
			for at, i := range comes {
				change(i, true)
				// One goes again at once, and comes back at the end.
				if at == 2 {
					change(comes[0], false)
				}
			}
			change(comes[0], true)
			for _, i := range slices.Backward(comes[1:]) {
				change(i, false)
			}
			change(comes[0], false)
		}
	}
}
