package tests

import (
	"fmt"
	"slices"
	"testing"

	"loop.example/g00380/impl"
)

func values(docs []node) []impl.Value {
	var list []impl.Value
	for _, x := range docs {
		list = append(list, x.value())
	}
	return list
}

// id is that of a node that has one.
func (x node) id() int {
	v, _ := x.field("id")
	return v.n
}

// entriesAt are those that an index has of a document.
func (x node) entriesAt(d impl.Def) []impl.Entry {
	var list []impl.Entry
	for _, key := range x.keysAt(d.Parts...) {
		list = append(list, impl.Entry{Key: key, Id: x.id()})
	}
	return list
}

func newPlainTree() *plainTree { return &plainTree{empty: 1, next: 2} }

// own is the same tree, to be changed.
func (x *plainTree) own() *plainTree {
	return &plainTree{rows: slices.Clone(x.rows), empty: x.empty, next: x.next}
}

// add is what IndexAdd does: all entries or none, and what is there is told ahead of lacking room.
func (x *plainTree) add(list []impl.Entry) (*plainTree, int) {
	if slices.ContainsFunc(list, x.has) {
		return x, impl.ErrTwice
	}
	y := x.own()
	for _, e := range list {
		if _, code := y.put(e); code != impl.OK {
			return x, code
		}
	}
	return y, impl.OK
}

// remove is what IndexRemove does.
func (x *plainTree) remove(list []impl.Entry) (*plainTree, int) {
	y := x.own()
	for _, e := range list {
		if y.drop(e) != impl.OK {
			return x, impl.ErrNone
		}
	}
	return y, impl.OK
}

// buildIs asks BuildIndex for the pages that come of putting the keys one by one.
func buildIs(t *testing.T, what string, d impl.Def, docs []node, code int) impl.Index {
	t.Helper()
	plain, c := newPlainTree(), impl.OK
	for _, x := range docs {
		if c == impl.OK {
			plain, c = plain.add(x.entriesAt(d))
		}
	}
	if c != code {
		t.Fatalf("%s: the documents themselves come to %d, not %d", what, c, code)
	}
	want := impl.Index{}
	if code == impl.OK {
		want = impl.Index{Def: d, Tree: plain.tree()}
	}
	x, c := impl.BuildIndex(d, values(docs))
	if !sameIndex(x, want) || c != code {
		t.Errorf("BuildIndex, %s: %s, %d, not %s, %d", what, shownIndex(x), c, shownIndex(want), code)
	}
	if code == impl.OK {
		holdsIs(t, what, x, values(docs), true)
	}
	return x
}

func holdsIs(t *testing.T, what string, x impl.Index, docs []impl.Value, want bool) {
	t.Helper()
	if holds, code := impl.IndexHolds(x, docs); holds != want || code != impl.OK {
		t.Errorf("IndexHolds, %s: %v, %d, not %v", what, holds, code, want)
	}
}

// numbered are documents of the ids from first on, each with that field a.
func numbered(first int, fields ...node) []node {
	var list []node
	for i, a := range fields {
		list = append(list, record("a", a, "id", num(first+i)))
	}
	return list
}

func TestP7BuildOfFewDocuments(t *testing.T) {
	for _, paths := range [][]string{{"a"}, {"-a"}, {"id"}, {"a", "-id"}, {"-a", "no"}, {"no", "-a"}} {
		d := def("one", paths...)
		buildIs(t, "no document", d, nil, impl.OK)
		buildIs(t, "one document", d, []node{record("a", num(5), "id", num(0))}, impl.OK)
		buildIs(t, "one document of the last id", d, []node{record("a", num(5), "id", num(99))}, impl.OK)
		buildIs(t, "one document without the field", d, []node{record("id", num(9))}, impl.OK)
		buildIs(t, "two documents alike", d, numbered(3, num(5), num(5)), impl.OK)
		buildIs(t, "lists", d, numbered(0, many(num(2), num(1)), many(), num(1), many(num(2), num(1)), many(many(num(1)))), impl.OK)
		buildIs(t, "the first id and the last one", d, []node{record("a", num(1), "id", num(0)), record("id", num(99))}, impl.OK)
	}
	if x, code := impl.BuildIndex(def("one", "-a"), nil); !sameTree(x.Tree, tree(2, "1")) || code != impl.OK {
		t.Errorf("BuildIndex of no document: %s, %d", shownIndex(x), code)
	}
	if x, code := impl.BuildIndex(def("one", "-a"), []impl.Value{}); !sameTree(x.Tree, tree(2, "1")) || code != impl.OK {
		t.Errorf("BuildIndex of an empty list: %s, %d", shownIndex(x), code)
	}
}

func TestP7BuildOfMaxDocs(t *testing.T) {
	docs := make([]node, 0, impl.MaxList+1)
	for i := range impl.MaxList + 1 {
		docs = append(docs, record("a", num(i%3), "id", num(i)))
	}
	d := def("one", "a")
	buildIs(t, "19 documents", d, docs[:impl.MaxDocs-1], impl.OK)
	buildIs(t, "20 documents", d, docs[:impl.MaxDocs], impl.OK)
	buildIs(t, "20 other documents", d, docs[80:100], impl.OK)
	for _, n := range []int{impl.MaxDocs + 1, impl.MaxDocs + 2, 100, impl.MaxList} {
		wrongDocs(t, fmt.Sprint(n, " documents"), d, values(docs[:n]))
		wrongDocs(t, fmt.Sprint(n, " values that are no documents"), d, make([]impl.Value, n))
	}
}

// More than MaxList are told ahead of all that is not right.
func TestP7LongLists(t *testing.T) {
	right := impl.Index{Def: def("one", "a"), Tree: impl.NewTree()}
	for _, x := range []impl.Index{right, {}, {Def: right.Def}, {Tree: right.Tree}} {
		for _, n := range []int{impl.MaxList + 1, impl.MaxList + 2, 3 * impl.MaxList} {
			for _, doc := range []impl.Value{{}, record("id", num(1)).value()} {
				docs := copies(n, doc)
				if y, code := impl.BuildIndex(x.Def, docs); !isZeroIndex(y) || code != impl.ErrLong {
					t.Errorf("BuildIndex of %d documents: %s, %d", n, shownIndex(y), code)
				}
				if holds, code := impl.IndexHolds(x, docs); holds || code != impl.ErrLong {
					t.Errorf("IndexHolds of %d documents: %v, %d", n, holds, code)
				}
			}
		}
	}
	for _, docs := range [][]impl.Value{make([]impl.Value, impl.MaxList), copies(impl.MaxList, record("id", num(1)).value())} {
		wrongDocs(t, "MaxList of them", right.Def, docs)
	}
}

func TestP7BuildOfDocumentsInOrder(t *testing.T) {
	d := def("one", "a")
	for _, ids := range [][]int{{0, 1, 2}, {0, 50, 99}, {7, 8}, {98, 99}, {2, 10, 11, 90}} {
		var docs []node
		for _, id := range ids {
			docs = append(docs, record("a", num(-id), "id", num(id)))
		}
		buildIs(t, fmt.Sprint("the ids ", ids), d, docs, impl.OK)
	}
	for _, ids := range [][]int{{1, 0}, {1, 1}, {0, 0}, {99, 99}, {0, 1, 1}, {0, 0, 1}, {0, 2, 1}, {2, 0, 1}, {2, 1, 0}, {0, 1, 2, 3, 2}, {10, 9}, {99, 100}, {-1, 0}} {
		var docs []impl.Value
		for i, id := range ids {
			docs = append(docs, record("a", num(i), "id", num(id)).value())
		}
		wrongDocs(t, fmt.Sprint("the ids ", ids), d, docs)
	}
}

// The Numbers and entries that come of documents one by one, written out: a key is one byte and a
// number's eight here, of which the last one tells it.
func TestP7BuildInPages(t *testing.T) {
	page := func(number int, pairs ...int) impl.Page {
		p := impl.Page{Number: number}
		for i := 0; i < len(pairs); i += 2 {
			p.Entries = append(p.Entries, impl.Entry{Key: "\x03\x40\x00\x00\x00\x00\x00\x00" + string([]byte{byte(pairs[i])}), Id: pairs[i+1]})
		}
		return p
	}
	want := func(x impl.Index, next int, pages ...impl.Page) {
		t.Helper()
		if y := (impl.Tree{Pages: pages, Next: next}); !sameTree(x.Tree, y) {
			t.Errorf("BuildIndex: %s, not %s", shownTree(x.Tree), shownTree(y))
		}
	}
	d := def("one", "a")
	want(buildIs(t, "four", d, numbered(1, num(5), num(3), num(5), num(1)), impl.OK), 2, page(1, 1, 4, 3, 2, 5, 1, 5, 3))
	want(buildIs(t, "five", d, numbered(1, num(5), num(3), num(5), num(1), num(4)), impl.OK), 3, page(1, 1, 4, 3, 2), page(2, 4, 5, 5, 1, 5, 3))
	want(buildIs(t, "rising", d, numbered(1, num(1), num(2), num(3), num(4), num(5), num(6), num(7)), impl.OK), 4, page(1, 1, 1, 2, 2), page(2, 3, 3, 4, 4), page(3, 5, 5, 6, 6, 7, 7))
	want(buildIs(t, "falling", d, numbered(1, num(7), num(6), num(5), num(4), num(3), num(2), num(1)), impl.OK), 3, page(1, 1, 7, 2, 6, 3, 5, 4, 4), page(2, 5, 3, 6, 2, 7, 1))
	want(buildIs(t, "alike", d, numbered(1, num(9), num(9), num(9), num(9), num(9)), impl.OK), 3, page(1, 9, 1, 9, 2), page(2, 9, 3, 9, 4, 9, 5))
	// The keys of one document come in the order of its list: these two have the same ones.
	one := record("d", many(record("v", num(5)), record("v", num(4)), record("v", num(3)), record("v", num(2)), record("v", num(1)), record("v", num(0))), "id", num(8))
	two := record("d", many(record("v", num(0)), record("v", num(1)), record("v", num(2)), record("v", num(3)), record("v", num(4)), record("v", num(5))), "id", num(8))
	d = def("one", "d.v")
	want(buildIs(t, "a falling list", d, []node{one}, impl.OK), 3, page(1, 0, 8, 1, 8, 2, 8), page(2, 3, 8, 4, 8, 5, 8))
	want(buildIs(t, "a rising list", d, []node{two}, impl.OK), 3, page(1, 0, 8, 1, 8), page(2, 2, 8, 3, 8, 4, 8, 5, 8))
}

// listed is a document that comes to these texts by d.v, in that order.
func listed(id int, keys ...string) node {
	list := many()
	for _, key := range keys {
		list.items = append(list.items, record("v", word(key)))
	}
	return record("d", list, "id", num(id))
}

// dealt are documents of each keys, in their order.
func dealt(keys []string, each int) []node {
	var docs []node
	for part := range slices.Chunk(keys, each) {
		docs = append(docs, listed(len(docs), part...))
	}
	return docs
}

// fillingKeys fill a tree to its last entry in their order: 121 that rise make 60 pages of two, but
// three on the last one; the others go between.
func fillingKeys() []string {
	var list, between []string
	for i := range 121 {
		list = append(list, fmt.Sprintf("%03d", i))
		if i < 119 {
			between = append(between, fmt.Sprintf("%03dx", i))
		}
	}
	return append(list, between...)
}

func TestP7BuildFillsTheTree(t *testing.T) {
	d := def("one", "d.v")
	keys := fillingKeys()
	if len(keys) != impl.MaxPages*impl.MaxPage {
		t.Fatalf("%d keys", len(keys))
	}
	docs := dealt(keys, 12)
	x := buildIs(t, "as many as fill it", d, docs, impl.OK)
	if n, _ := impl.TreeSize(x.Tree); n != 240 || len(docs) != impl.MaxDocs {
		t.Errorf("BuildIndex of %d documents: %d entries", len(docs), n)
	}
	for at := range docs {
		more := slices.Clone(docs)
		more[at] = listed(at, append(slices.Clone(keys[12*at:12*at+12]), "500")...)
		buildIs(t, fmt.Sprint("one key more, of document ", at), d, more, impl.ErrFull)
	}
	buildIs(t, "121 keys that rise", d, dealt(keys[:121], 12), impl.OK)
	rising := append(slices.Clone(keys[:121]), "500")
	buildIs(t, "122 keys that rise", d, dealt(rising, 12), impl.OK)
	buildIs(t, "123 keys that rise", d, dealt(append(rising, "501"), 12), impl.ErrFull)
	// For keys behind the one that is too much there would be room.
	buildIs(t, "123 keys that rise, then others", d, dealt(append(rising, "501", "000x", "000y"), 12), impl.ErrFull)
	buildIs(t, "a document of more keys than there is room for", def("one", "a", "b"), []node{record("a", manyValues(20), "b", manyValues(20), "id", num(1))}, impl.ErrFull)
	buildIs(t, "documents of which all but the last one have room", d, append(dealt(keys, 13), record("id", num(50))), impl.ErrFull)
}

// What is not right is told ahead of lacking room, though it stands behind.
func TestP7BuildFaultsInOrder(t *testing.T) {
	d := def("one", "a", "b")
	great := record("a", manyValues(20), "b", manyValues(20), "id", num(1)).value()
	if x, code := impl.BuildIndex(d, []impl.Value{great}); !isZeroIndex(x) || code != impl.ErrFull {
		t.Fatalf("BuildIndex: %s, %d", shownIndex(x), code)
	}
	for _, last := range []impl.Value{{}, record().value(), record("id", num(0)).value(), record("id", num(1)).value(), record("id", num(100)).value(), raw(impl.VaDoc, "\x09"), great} {
		wrongDocs(t, "a great one, then a wrong one", d, []impl.Value{great, last})
	}
	wrongDef(t, "a great document", impl.Def{})
	if x, code := impl.BuildIndex(impl.Def{}, []impl.Value{great}); !isZeroIndex(x) || code != impl.ErrBad {
		t.Errorf("BuildIndex of a zero definition: %s, %d", shownIndex(x), code)
	}
}
