package tests

import (
	"fmt"
	"math/rand"
	"slices"
	"strings"
	"testing"

	"loop.example/g00380/impl"
)

// directedKey is a node's key, falling with desc.
func (x node) directedKey(desc bool) string {
	if desc {
		return falling(x.key())
	}
	return x.key()
}

// once are the nodes without those that are like one ahead of them.
func once(list []node) []node {
	var left []node
	for i, x := range list {
		if !slices.ContainsFunc(list[:i], func(y node) bool { return x.order(y) == 0 }) {
			left = append(left, x)
		}
	}
	return left
}

// keysAt is chapter 7's word on a document's keys, of trees.
func (x node) keysAt(parts ...impl.Part) []string {
	if len(parts) == 0 {
		return []string{""}
	}
	values := once(x.comesTo(parts[0].Path))
	if len(values) == 0 {
		values = []node{{}}
	}
	var list []string
	for _, v := range values {
		for _, rest := range x.keysAt(parts[1:]...) {
			list = append(list, v.directedKey(parts[0].Desc)+rest)
		}
	}
	return list
}

// keysAre asks for the keys of values that the paths come to, one a path.
func keysAre(t *testing.T, doc node, paths string, rows ...[]node) {
	t.Helper()
	d := def("one", strings.Fields(paths)...)
	var want []string
	for _, row := range rows {
		key := ""
		for i, v := range row {
			key += v.directedKey(d.Parts[i].Desc)
		}
		want = append(want, key)
	}
	if keys, code := impl.DocKeys(d, doc.value()); !slices.Equal(keys, want) || code != impl.OK {
		t.Errorf("DocKeys of %s in %v: %q, %d, not %q", paths, doc, keys, code, want)
	}
}

func TestP7KeysOfOnePath(t *testing.T) {
	none, yes := node{}, node{kind: impl.VaBool, n: 1}
	for _, r := range []struct {
		a    node
		want []node
	}{
		{none, []node{none}},
		{yes, []node{yes}},
		{num(5), []node{num(5)}},
		{word(""), []node{word("")}},
		{word("a\x00b"), []node{word("a\x00b")}},
		{record(), []node{record()}},
		{record("a", num(1)), []node{record("a", num(1))}},
		{record("a", many(num(1))), []node{record("a", many(num(1)))}},
		// A list: itself, then its items.
		{many(), []node{many()}},
		{many(num(1)), []node{many(num(1)), num(1)}},
		{many(none), []node{many(none), none}},
		{many(num(2), num(1), num(3)), []node{many(num(2), num(1), num(3)), num(2), num(1), num(3)}},
		{many(word("1"), num(1), yes), []node{many(word("1"), num(1), yes), word("1"), num(1), yes}},
		{many(record("b", num(1)), num(1)), []node{many(record("b", num(1)), num(1)), record("b", num(1)), num(1)}},
		// Items alike: each once, where the first of them stands.
		{many(num(1), num(1)), []node{many(num(1), num(1)), num(1)}},
		{many(num(1), num(2), num(1)), []node{many(num(1), num(2), num(1)), num(1), num(2)}},
		{many(num(2), num(1), num(1), num(2), num(3)), []node{many(num(2), num(1), num(1), num(2), num(3)), num(2), num(1), num(3)}},
		{many(none, num(0), none, word(""), num(0)), []node{many(none, num(0), none, word(""), num(0)), none, num(0), word("")}},
		{many(record("x", num(1)), record("x", num(2)), record("x", num(1))), []node{many(record("x", num(1)), record("x", num(2)), record("x", num(1))), record("x", num(1)), record("x", num(2))}},
		// Lists in a list are items as they are: theirs are not come to.
		{many(many(num(1), num(2)), many(), num(3)), []node{many(many(num(1), num(2)), many(), num(3)), many(num(1), num(2)), many(), num(3)}},
		{many(many(num(1)), many(num(1)), num(1)), []node{many(many(num(1)), many(num(1)), num(1)), many(num(1)), num(1)}},
		{many(many()), []node{many(many()), many()}},
		{many(many(many(num(1)))), []node{many(many(many(num(1)))), many(many(num(1)))}},
	} {
		var rows [][]node
		for _, v := range r.want {
			rows = append(rows, []node{v})
		}
		for _, doc := range []node{record("a", r.a, "id", num(3)), record("a", r.a), record("Z", num(9), "a", r.a, "b", num(8))} {
			keysAre(t, doc, "a", rows...)
			keysAre(t, doc, "-a", rows...)
		}
		keysAre(t, record("x", record("a", r.a)), "x.a", rows...)
		if through := record("x", many(num(1), record("a", r.a))); through.depth() <= impl.MaxDeep {
			keysAre(t, through, "-x.a", rows...)
		}
	}
}

func TestP7KeysOfNothingAreNull(t *testing.T) {
	none := []node{{}}
	for _, doc := range []node{record(), record("b", num(1)), record("a", num(1)), record("a", word("b")), record("a", record()), record("a", many()), record("a", many(num(1), word("b"))), record("a", many(record())), record("a", many(many(record("b", num(1)))))} {
		keysAre(t, doc, "a.b", none)
		keysAre(t, doc, "-a.b", none)
		keysAre(t, doc, "a.b -c", []node{{}, {}})
	}
	keysAre(t, record("id", num(1)), "a", none)
	if keys, code := impl.DocKeys(def("one", "a", "-b"), record().value()); !slices.Equal(keys, []string{"\x01\xfe"}) || code != impl.OK {
		t.Errorf("DocKeys of nothing: %q, %d", keys, code)
	}
}

func TestP7KeysThroughLists(t *testing.T) {
	doc := record("d", many(record("v", num(3)), num(7), record("v", num(1), "w", num(2)), record("w", num(4)), record("v", num(3)), many(record("v", num(9)))))
	keysAre(t, doc, "d.v", []node{num(3)}, []node{num(1)})
	keysAre(t, doc, "-d.v", []node{num(3)}, []node{num(1)})
	keysAre(t, doc, "d.w", []node{num(2)}, []node{num(4)})
	keysAre(t, doc, "d.v d.w", []node{num(3), num(2)}, []node{num(3), num(4)}, []node{num(1), num(2)}, []node{num(1), num(4)})
	// The lists that several documents have: each list, then its items, each once in all.
	one, two := many(num(1), num(2)), many(num(2), num(3))
	lists := record("d", many(record("v", one), record("v", two), record("v", num(3)), record("v", one), record("v", many())))
	keysAre(t, lists, "d.v", []node{one}, []node{num(1)}, []node{num(2)}, []node{two}, []node{num(3)}, []node{many()})
	// A field null is a value, a field that is missing is nothing.
	keysAre(t, record("d", many(record("v", node{}), record(), record("v", num(1)))), "d.v", []node{{}}, []node{num(1)})
}

func TestP7KeysOfTwoPaths(t *testing.T) {
	a, b := many(num(2), num(1), num(2)), many(word("y"), word("x"))
	doc := record("a", a, "b", b, "c", num(7), "id", num(1))
	for _, paths := range []string{"a b", "-a b", "a -b", "-a -b"} {
		keysAre(t, doc, paths,
			[]node{a, b}, []node{a, word("y")}, []node{a, word("x")},
			[]node{num(2), b}, []node{num(2), word("y")}, []node{num(2), word("x")},
			[]node{num(1), b}, []node{num(1), word("y")}, []node{num(1), word("x")})
	}
	for _, paths := range []string{"b c", "-b c", "b -c", "-b -c"} {
		keysAre(t, doc, paths, []node{b, num(7)}, []node{word("y"), num(7)}, []node{word("x"), num(7)})
	}
	keysAre(t, doc, "c a", []node{num(7), a}, []node{num(7), num(2)}, []node{num(7), num(1)})
	keysAre(t, doc, "-c -id", []node{num(7), num(1)})
	keysAre(t, doc, "no -a", []node{{}, a}, []node{{}, num(2)}, []node{{}, num(1)})
	keysAre(t, doc, "-a no", []node{a, {}}, []node{num(2), {}}, []node{num(1), {}})
	keysAre(t, doc, "no -none", []node{{}, {}})
	// What the first path comes to, the second may come to as well.
	inner := record("v", num(1))
	keysAre(t, record("d", inner), "d d.v", []node{inner, num(1)})
	keysAre(t, record("d", inner), "-d.v d", []node{num(1), inner})
	keysAre(t, record("a", many(num(1)), "b", many(num(1))), "a -b", []node{many(num(1)), many(num(1))}, []node{many(num(1)), num(1)}, []node{num(1), many(num(1))}, []node{num(1), num(1)})
}

// The bytes of keys, as chapter 5 has them.
func TestP7KeysInBytes(t *testing.T) {
	doc := record("a", many(num(1), word("x")), "b", node{kind: impl.VaBool, n: 1}).value()
	one := "\x03\x40\x00\x00\x00\x00\x00\x00\x01"
	want := []string{"\x05" + one + "\x04x\x00\x00\x00" + "\xfd\xfe", one + "\xfd\xfe", "\x04x\x00\x00" + "\xfd\xfe"}
	if keys, code := impl.DocKeys(def("one", "a", "-b"), doc); !slices.Equal(keys, want) || code != impl.OK {
		t.Errorf("DocKeys: %q, %d, not %q", keys, code, want)
	}
	want = []string{"\x02\x01" + falling("\x05"+one+"\x04x\x00\x00\x00"), "\x02\x01" + falling(one), "\x02\x01" + falling("\x04x\x00\x00")}
	if keys, code := impl.DocKeys(def("one", "b", "-a"), doc); !slices.Equal(keys, want) || code != impl.OK {
		t.Errorf("DocKeys: %q, %d, not %q", keys, code, want)
	}
}

// manyValues is a list of n unlike values, none of more than four bytes.
func manyValues(n int) node {
	list := many()
	for i := range n {
		list.items = append(list.items, word(string(rune('0'+i))))
	}
	return list
}

// As many keys as a document can have, and keys as long as they can be.
func TestP7GreatestKeys(t *testing.T) {
	doc := record("a", manyValues(34), "b", manyValues(34), "id", num(99))
	keys, code := impl.DocKeys(def("one", "a", "-b"), doc.value())
	want := doc.keysAt(impl.Part{Path: "a"}, impl.Part{Path: "b", Desc: true})
	if !slices.Equal(keys, want) || len(keys) != 35*35 || code != impl.OK {
		t.Errorf("DocKeys of two long lists: %d keys, %d", len(keys), code)
	}
	deep := record("a", record("a", record("a", record("a", word(strings.Repeat("\x00", 258))))), "id", num(3))
	d := def("one", "a", "-a.a")
	keys, code = impl.DocKeys(d, deep.value())
	if want := deep.keysAt(d.Parts...); !slices.Equal(keys, want) || len(keys) != 1 || len(keys[0]) < 1000 || code != impl.OK {
		t.Errorf("DocKeys of a long text: %q, %d", keys, code)
	}
	x, code := impl.BuildIndex(d, []impl.Value{deep.value()})
	if holds, c := impl.IndexHolds(x, []impl.Value{deep.value()}); !holds || code != impl.OK || c != impl.OK {
		t.Errorf("BuildIndex of a long text: %d, then IndexHolds: %v, %d", code, holds, c)
	}
}

// defsOf are definitions of one path and of two.
func defsOf(r *rand.Rand, paths []string) []impl.Def {
	sign := func() string { return pick(r, []string{"", "-"}) }
	list := []impl.Def{def("one", sign()+pick(r, paths))}
	if a, b := pick(r, paths), pick(r, paths); a != b {
		list = append(list, def("two", sign()+a, sign()+b))
	}
	return list
}

func TestP7KeysOfRandomDocuments(t *testing.T) {
	r := rand.New(rand.NewSource(71))
	several, pairs := 0, 0
	for _, x := range randomDocs(72, 1500) {
		paths := append(x.pathsOf("", 4), randomPath(r), "a", "b")
		for range 4 {
			for _, d := range defsOf(r, paths) {
				want := x.keysAt(d.Parts...)
				keys, code := impl.DocKeys(d, x.value())
				if !slices.Equal(keys, want) || code != impl.OK {
					t.Errorf("DocKeys(%v, %v) = %q, %d, not %q", d, x, keys, code, want)
				}
				if len(keys) > 2 {
					several++
				}
				if len(keys) > 2 && len(d.Parts) == 2 {
					pairs++
				}
				noneBegins(t, fmt.Sprint(d, x), keys)
			}
		}
	}
	if several < 1000 || pairs < 300 {
		t.Errorf("%d documents had several keys, %d of them by two paths", several, pairs)
	}
}

func noneBegins(t *testing.T, what string, keys []string) {
	t.Helper()
	for i, a := range keys {
		for j, b := range keys {
			if i != j && strings.HasPrefix(a, b) {
				t.Errorf("%s: the key %q begins with %q", what, a, b)
			}
		}
	}
}

// Of rising paths the keys come apart again into those of the values.
func TestP7KeysComeApart(t *testing.T) {
	r := rand.New(rand.NewSource(73))
	for _, x := range randomDocs(74, 400) {
		a, b := pick(r, append(x.pathsOf("", 4), "a")), "not.there"
		keys, _ := impl.DocKeys(def("one", a, b), x.value())
		firsts, _ := impl.DocKeys(def("one", a), x.value())
		for i, key := range keys {
			parts, code := impl.SplitKey(key, 2)
			if code != impl.OK || len(keys) != len(firsts) || parts[0] != firsts[i] || parts[1] != "\x01" {
				t.Errorf("the key %q of %s in %v comes apart into %q, %d", key, a, x, parts, code)
			}
		}
	}
}
