package tests

import (
	"fmt"
	"math"
	"slices"
	"strings"
	"testing"

	"loop.example/g00380/impl"
)

func num(n int) node { return node{kind: impl.VaInt, n: n} }

func word(s string) node { return node{kind: impl.VaText, text: s} }

func many(items ...node) node { return node{kind: impl.VaList, items: items} }

// record is a document of names, which rise, and values in turn.
func record(pairs ...any) node {
	x := node{kind: impl.VaDoc}
	for i := 0; i < len(pairs); i += 2 {
		x.names = append(x.names, pairs[i].(string))
		x.items = append(x.items, pairs[i+1].(node))
	}
	if !slices.IsSorted(x.names) {
		panic(fmt.Sprint("names that do not rise: ", x.names))
	}
	return x
}

// def is of paths, a - ahead of a falling one.
func def(name string, paths ...string) impl.Def {
	d := impl.Def{Name: name}
	for _, path := range paths {
		bare := strings.TrimPrefix(path, "-")
		d.Parts = append(d.Parts, impl.Part{Path: bare, Desc: bare != path})
	}
	return d
}

func sameDef(a, b impl.Def) bool { return a.Name == b.Name && slices.Equal(a.Parts, b.Parts) }

func sameIndex(a, b impl.Index) bool { return sameDef(a.Def, b.Def) && sameTree(a.Tree, b.Tree) }

func isZeroIndex(x impl.Index) bool { return sameIndex(x, impl.Index{}) }

func shownIndex(x impl.Index) string {
	return fmt.Sprintf("%.20q %v %s", x.Def.Name, x.Def.Parts, shownTree(x.Tree))
}

// wrongIndex holds all calls to it that an index, by its definition or by its tree, isn't right.
func wrongIndex(t *testing.T, what string, x impl.Index) {
	t.Helper()
	for _, doc := range []impl.Value{record("id", num(1)).value(), record().value(), {}, raw(impl.VaDoc, "\x00")} {
		if y, code := impl.IndexAdd(x, doc); !isZeroIndex(y) || code != impl.ErrBad {
			t.Errorf("IndexAdd, %s: %s, %d", what, shownIndex(y), code)
		}
		if y, code := impl.IndexRemove(x, doc); !isZeroIndex(y) || code != impl.ErrBad {
			t.Errorf("IndexRemove, %s: %s, %d", what, shownIndex(y), code)
		}
		if holds, code := impl.IndexHolds(x, []impl.Value{doc}); holds || code != impl.ErrBad {
			t.Errorf("IndexHolds, %s: %v, %d", what, holds, code)
		}
	}
	if holds, code := impl.IndexHolds(x, nil); holds || code != impl.ErrBad {
		t.Errorf("IndexHolds of no document, %s: %v, %d", what, holds, code)
	}
}

func wrongDef(t *testing.T, what string, d impl.Def) {
	t.Helper()
	if impl.DefOK(d) {
		t.Errorf("DefOK, %s: it is right", what)
	}
	doc := record("id", num(1)).value()
	if keys, code := impl.DocKeys(d, doc); len(keys) != 0 || code != impl.ErrBad {
		t.Errorf("DocKeys, %s: %q, %d", what, keys, code)
	}
	for _, docs := range [][]impl.Value{nil, {doc}} {
		if x, code := impl.BuildIndex(d, docs); !isZeroIndex(x) || code != impl.ErrBad {
			t.Errorf("BuildIndex, %s: %s, %d", what, shownIndex(x), code)
		}
	}
	wrongIndex(t, what, impl.Index{Def: d, Tree: impl.NewTree()})
	agreeIs(t, what, impl.Query{Filter: everything()}, []impl.Value{doc}, []impl.Def{agreeDefs()[0], d}, impl.ErrBad)
}

func rightDef(t *testing.T, what string, d impl.Def) {
	t.Helper()
	if !impl.DefOK(d) {
		t.Errorf("DefOK, %s: it is not right", what)
	}
	doc := record("id", num(1)).value()
	keys, code := impl.DocKeys(d, doc)
	if len(keys) == 0 || code != impl.OK {
		t.Errorf("DocKeys, %s: %q, %d", what, keys, code)
	}
	empty := impl.Index{Def: d, Tree: impl.NewTree()}
	x, code := impl.BuildIndex(d, nil)
	if !sameIndex(x, empty) || code != impl.OK {
		t.Errorf("BuildIndex, %s: %s, %d", what, shownIndex(x), code)
	}
	one := impl.Index{Def: d, Tree: impl.Tree{Pages: []impl.Page{{Number: 1, Entries: []impl.Entry{{Key: keys[0], Id: 1}}}}, Next: 2}}
	if y, code := impl.IndexAdd(x, doc); !sameIndex(y, one) || code != impl.OK {
		t.Errorf("IndexAdd, %s: %s, %d", what, shownIndex(y), code)
	}
	if y, code := impl.IndexRemove(one, doc); !sameIndex(y, empty) || code != impl.OK {
		t.Errorf("IndexRemove, %s: %s, %d", what, shownIndex(y), code)
	}
	if holds, code := impl.IndexHolds(one, []impl.Value{doc}); !holds || code != impl.OK {
		t.Errorf("IndexHolds, %s: %v, %d", what, holds, code)
	}
	agreeIs(t, what, impl.Query{Filter: everything()}, []impl.Value{doc}, []impl.Def{agreeDefs()[0], d}, impl.OK)
}

func TestP7DefNames(t *testing.T) {
	for _, name := range []string{"a", "_", "Z", "id", "a9", "by_name", "_9", strings.Repeat("n", 11), strings.Repeat("n", 12)} {
		rightDef(t, name, def(name, "a"))
		rightDef(t, name, def(name, "b", "-a"))
	}
	for _, name := range []string{
		"", "9", "9a", "a.b", "a b", " a", "a ", "a-b", "a\x00", "\x00", "\xc3\xa9", "a\n",
		strings.Repeat("n", 13), strings.Repeat("n", impl.MaxName), strings.Repeat("n", impl.MaxName+1), strings.Repeat("n", impl.MaxText), strings.Repeat("n", impl.MaxText+1),
	} {
		wrongDef(t, fmt.Sprintf("the name %.50q", name), def(name, "a"))
		wrongDef(t, fmt.Sprintf("the name %.50q", name), def(name, "a", "b"))
	}
}

func TestP7DefPaths(t *testing.T) {
	longest := strings.Join([]string{strings.Repeat("n", 12), strings.Repeat("n", 12), strings.Repeat("n", 12), strings.Repeat("n", 11)}, ".")
	for _, paths := range [][]string{{"a"}, {"-a"}, {"a.b.c.d"}, {longest}, {"a", "b"}, {"-a", "b"}, {"a", "-b"}, {"-b", "-a"}, {"a", "a.b"}, {"a.b", "a"}, {"a", "aa"}, {"a", "A"}, {"b.a", "a.b"}, {longest, "-a"}} {
		rightDef(t, fmt.Sprint("the paths ", paths), def("one", paths...))
	}
	wrongDef(t, "zero", impl.Def{})
	wrongDef(t, "no path", def("one"))
	wrongDef(t, "an empty list of paths", impl.Def{Name: "one", Parts: []impl.Part{}})
	for _, paths := range [][]string{{"a", "b", "c"}, {"a", "-b", "c"}, {"a", "b", "a"}, {"a", "b", ""}, {"a", "b", "c", "d"}, {"a", "a"}, {"-a", "a"}, {"a", "-a"}, {"-a", "-a"}, {"a.b", "a.b"}, {"a.b", "-a.b"}, {longest, longest}} {
		wrongDef(t, fmt.Sprint("the paths ", paths), def("one", paths...))
	}
	for _, n := range []int{3, impl.MaxList, impl.MaxList + 1} {
		d := def("one")
		for i := range n {
			d.Parts = append(d.Parts, impl.Part{Path: fmt.Sprint("a", i)})
		}
		wrongDef(t, fmt.Sprint(n, " paths"), d)
	}
	for _, path := range []string{"", ".", "a.", ".a", "a..b", "9", "a.9", "a b", "--a", "a.b.c.d.e", strings.Repeat("n", 13), longest + "n", strings.Repeat("n", impl.MaxText+1)} {
		for _, d := range []impl.Def{def("one", path), def("one", "-"+path), def("one", "a", path), def("one", path, "a"), def("one", path, path)} {
			wrongDef(t, fmt.Sprintf("the paths %.60q", fmt.Sprint(d.Parts)), d)
		}
	}
}

func TestP7IndexTrees(t *testing.T) {
	d := def("one", "a")
	for what, x := range map[string]impl.Tree{
		"zero": {}, "no page": {Next: 2}, "Next 1": {Pages: []impl.Page{{Number: 1}}, Next: 1}, "a Number of Next": tree(2, "2"),
		"falling keys": tree(9, "1 b0 a0"), "an entry twice": tree(9, "1 a0|2 a0"), "an empty page": tree(9, "1 a0|2"), "five entries": tree(9, "1 a0 b0 c0 d0 e0"),
		"Numbers alike": tree(9, "1 a0|1 b0"), "an Id of 10000": tree(9, "1 a10000"), "a Key of 2001": {Pages: []impl.Page{{Number: 1, Entries: []impl.Entry{{Key: strings.Repeat("k", 2001)}}}}, Next: 2},
		"61 pages": manyPages(61, 1, 99), "Next 100001": tree(100001, "1 a0"),
	} {
		wrongIndex(t, what, impl.Index{Def: d, Tree: x})
		wrongIndex(t, what+", and no definition", impl.Index{Tree: x})
	}
	// Keys that are no document's are the index's own affair: it is right.
	doc := record("id", num(5)).value()
	for _, x := range []impl.Tree{tree(9, "1 a0"), tree(9, "3 0 a0|1 z9999"), manyPages(impl.MaxPages, 3, 99), tree(100000, "99999")} {
		y, code := impl.IndexAdd(impl.Index{Def: d, Tree: x}, doc)
		z, c := impl.IndexRemove(y, doc)
		if code != impl.OK || c != impl.OK || !sameIndex(z, impl.Index{Def: d, Tree: x}) {
			t.Errorf("IndexAdd, then IndexRemove: %s, %d, %d", shownIndex(z), code, c)
		}
	}
}

func TestP7IdOf(t *testing.T) {
	for n, code := range map[int]int{
		0: impl.OK, 1: impl.OK, 19: impl.OK, 20: impl.OK, 98: impl.OK, impl.MaxId: impl.OK,
		-1: impl.ErrNone, -2: impl.ErrNone, 100: impl.ErrNone, 101: impl.ErrNone, 9999: impl.ErrNone, 1 << 32: impl.ErrNone, 1<<32 + 5: impl.ErrNone, impl.MaxNumber: impl.ErrNone, -impl.MaxNumber: impl.ErrNone,
	} {
		for _, x := range []node{record("id", num(n)), record("a", num(7), "id", num(n), "x", num(8)), record("ID", num(1), "i", num(2), "id", num(n), "idd", num(3)), record("a", record("id", num(1)), "id", num(n))} {
			want := n
			if code != impl.OK {
				want = 0
			}
			if id, c := impl.IdOf(x.value()); id != want || c != code {
				t.Errorf("IdOf(%v) = %d, %d, not %d, %d", x, id, c, want, code)
			}
		}
	}
	for _, x := range []node{{}, {kind: impl.VaBool}, {kind: impl.VaBool, n: 1}, word(""), word("1"), many(), many(num(1)), record(), record("id", num(1))} {
		if id, code := impl.IdOf(record("a", num(3), "id", x).value()); id != 0 || code != impl.ErrNone {
			t.Errorf("IdOf with an id %v: %d, %d", x, id, code)
		}
	}
	for _, x := range []node{record(), record("a", num(1)), record("ID", num(1)), record("Id", num(1)), record("i", num(1), "idd", num(1)), record("_id", num(1)), record("a", record("id", num(1))), record("a", many(record("id", num(1))))} {
		if id, code := impl.IdOf(x.value()); id != 0 || code != impl.ErrNone {
			t.Errorf("IdOf(%v), which has none: %d, %d", x, id, code)
		}
	}
}

// noDocuments are values that are none, and documents that are not right.
func noDocuments() map[string]impl.Value {
	list := wrongValues()
	for name, v := range edgeValues() {
		if v.Kind != impl.VaDoc {
			list[name] = v
		}
	}
	list["a right id ahead of a wrong value"] = raw(impl.VaDoc, "\x02id"+string(rawBytes(intOf(1)))+"\x01x\x09")
	list["an id twice"] = raw(impl.VaDoc, strings.Repeat("\x02id"+string(rawBytes(intOf(1))), 2))
	list["an id of MaxNumber and one"] = raw(impl.VaDoc, "\x02id"+string(rawBytes(intOf(impl.MaxNumber+1))))
	list["the least number"] = impl.Value{Kind: impl.VaDoc, N: math.MinInt, T: "\x02id" + string(rawBytes(intOf(1)))}
	list["a list of a document"] = many(record("id", num(1))).value()
	return list
}

func TestP7WhatIsNoDocument(t *testing.T) {
	d := def("one", "a", "-id")
	one := record("id", num(1)).value()
	x, _ := impl.BuildIndex(d, []impl.Value{one})
	for what, v := range noDocuments() {
		if id, code := impl.IdOf(v); id != 0 || code != impl.ErrBad {
			t.Errorf("IdOf, %s: %d, %d", what, id, code)
		}
		if keys, code := impl.DocKeys(d, v); len(keys) != 0 || code != impl.ErrBad {
			t.Errorf("DocKeys, %s: %q, %d", what, keys, code)
		}
		if y, code := impl.IndexAdd(x, v); !isZeroIndex(y) || code != impl.ErrBad {
			t.Errorf("IndexAdd, %s: %s, %d", what, shownIndex(y), code)
		}
		if y, code := impl.IndexRemove(x, v); !isZeroIndex(y) || code != impl.ErrBad {
			t.Errorf("IndexRemove, %s: %s, %d", what, shownIndex(y), code)
		}
		for _, docs := range [][]impl.Value{{v}, {v, one}, {one, v}} {
			wrongDocs(t, what, d, docs)
		}
	}
}

// wrongDocs holds the calls of many documents to it that these aren't right.
func wrongDocs(t *testing.T, what string, d impl.Def, docs []impl.Value) {
	t.Helper()
	if x, code := impl.BuildIndex(d, docs); !isZeroIndex(x) || code != impl.ErrBad {
		t.Errorf("BuildIndex, %s: %s, %d", what, shownIndex(x), code)
	}
	empty := impl.Index{Def: d, Tree: impl.NewTree()}
	full := impl.Index{Def: d, Tree: manyPages(impl.MaxPages, impl.MaxPage, 99)}
	for _, x := range []impl.Index{empty, full} {
		if holds, code := impl.IndexHolds(x, docs); holds || code != impl.ErrBad {
			t.Errorf("IndexHolds, %s: %v, %d", what, holds, code)
		}
	}
}

// Without an id, or with one that is out of bounds, a document has keys, but no place in an index.
func TestP7DocumentsWithoutAnId(t *testing.T) {
	d := def("one", "a")
	one := record("id", num(1)).value()
	x, _ := impl.BuildIndex(d, []impl.Value{one})
	for _, doc := range []node{record(), record("a", num(1)), record("id", num(-1)), record("id", num(100)), record("id", node{}), record("id", word("1")), record("id", many(num(1))), record("a", num(1), "id", record("id", num(1)))} {
		v := doc.value()
		if keys, code := impl.DocKeys(d, v); len(keys) != 1 || code != impl.OK {
			t.Errorf("DocKeys(%v): %q, %d", doc, keys, code)
		}
		if y, code := impl.IndexAdd(x, v); !isZeroIndex(y) || code != impl.ErrBad {
			t.Errorf("IndexAdd of %v: %s, %d", doc, shownIndex(y), code)
		}
		if y, code := impl.IndexRemove(x, v); !isZeroIndex(y) || code != impl.ErrBad {
			t.Errorf("IndexRemove of %v: %s, %d", doc, shownIndex(y), code)
		}
		for _, docs := range [][]impl.Value{{v}, {v, one}, {one, v}} {
			wrongDocs(t, doc.String(), d, docs)
		}
	}
}
