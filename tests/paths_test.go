package tests

import (
	"fmt"
	"math/rand"
	"slices"
	"strings"
	"testing"

	"loop.example/g00380/impl"
)

// field is the node of that name in a document.
func (x node) field(name string) (node, bool) {
	i := slices.Index(x.names, name)
	if x.kind != impl.VaDoc || i < 0 {
		return node{}, false
	}
	return x.items[i], true
}

// through is what one name of a path leads to, from all that was come to ahead of it.
func through(list []node, name string) []node {
	var next []node
	for _, x := range list {
		from := []node{x}
		if x.kind == impl.VaList {
			from = x.items
		}
		for _, y := range from {
			if found, there := y.field(name); there {
				next = append(next, found)
			}
		}
	}
	return next
}

func (x node) comesTo(path string) []node {
	list := []node{x}
	for _, name := range strings.Split(path, ".") {
		list = through(list, name)
	}
	var all []node
	for _, y := range list {
		all = append(all, y)
		if y.kind == impl.VaList {
			all = append(all, y.items...)
		}
	}
	return all
}

func TestP3PathOK(t *testing.T) {
	twelve, eleven := strings.Repeat("n", 12), strings.Repeat("n", 11)
	right := []string{
		"a", "_", "Z9", "id", "a.b", "a.b.c", "a.b.c.d", "id.id", "_._", twelve,
		twelve + "." + twelve, "a." + twelve + ".b." + twelve,
		// Of 50 bytes.
		strings.Join([]string{twelve, twelve, twelve, eleven}, "."),
		strings.Join([]string{eleven, twelve, twelve, twelve}, "."),
	}
	for _, p := range right {
		if !impl.PathOK(p) {
			t.Errorf("%q is a path", p)
		}
	}
	wrong := []string{
		"", ".", "..", ".a", "a.", "a..b", "a.b.", ".a.b", "a.b.c.", "a.b.c.d.", "a.b.c.d.e", "...",
		"9", "a.9", "9a", "a.b c", " a", "a ", "a-b", "a\x00", "a,b", "\xc3\xa9", "a.b\n", "a.*",
		strings.Repeat("n", 13), "a." + strings.Repeat("n", 13), strings.Repeat("n", impl.MaxName),
		strings.Join([]string{twelve, twelve, twelve, twelve}, "."),
		strings.Join([]string{"abcdefghij", "abcdefghij", "abcdefghij", "abcdefghij", "abcdef"}, "."),
		strings.Repeat("n", impl.MaxText), strings.Repeat("n", impl.MaxText+1),
		strings.Repeat("a.", impl.MaxText/2), strings.Repeat("a.", impl.MaxText/2+1),
	}
	for _, p := range wrong {
		if impl.PathOK(p) {
			t.Errorf("%.60q is no path", p)
		}
	}
}

// pathDoc has documents and lists in each other, as a path may come by them.
func pathDoc(t *testing.T) impl.Value {
	x0, x1 := mustDoc(t, field("x", intOf(0))), mustDoc(t, field("x", intOf(1)))
	x2 := mustDoc(t, field("x", mustList(t, intOf(3), intOf(2))))
	deep := mustDoc(t, field("b", mustDoc(t, field("c", mustDoc(t, field("d", textOf("end")))))))
	return mustDoc(t,
		field("a", deep),
		field("e", mustList(t)),
		field("f", mustDoc(t)),
		field("l", mustList(t, x2, intOf(9), mustList(t, x1), x1, mustDoc(t, field("y", intOf(7))), impl.Value{})),
		field("m", mustList(t, mustDoc(t, field("l", mustList(t, x1, x0))), mustDoc(t, field("l", x1)))),
		field("n", impl.Value{}),
		field("s", textOf("x")),
		field("w", mustList(t, mustList(t, intOf(5)), intOf(4))),
	)
}

func TestP3GetPath(t *testing.T) {
	doc := pathDoc(t)
	pair, five := mustList(t, intOf(3), intOf(2)), mustList(t, intOf(5))
	x0, x1 := mustDoc(t, field("x", intOf(0))), mustDoc(t, field("x", intOf(1)))
	rows := []struct {
		path string
		want []impl.Value
	}{
		{"a.b.c.d", []impl.Value{textOf("end")}},
		{"a.b.c", []impl.Value{mustDoc(t, field("d", textOf("end")))}},
		{"a.c", nil},
		{"a.b.c.x", nil},
		{"e", []impl.Value{mustList(t)}},
		{"e.x", nil},
		{"f", []impl.Value{mustDoc(t)}},
		{"f.x", nil},
		{"n", []impl.Value{{}}},
		{"n.x", nil},
		{"s", []impl.Value{textOf("x")}},
		{"s.x", nil},
		{"w", []impl.Value{mustList(t, five, intOf(4)), five, intOf(4)}},
		{"l.x", []impl.Value{pair, intOf(3), intOf(2), intOf(1)}},
		{"l.y", []impl.Value{intOf(7)}},
		{"l.z", nil},
		{"l.x.y", nil},
		{"l.l", nil},
		{"m.l", []impl.Value{mustList(t, x1, x0), x1, x0, x1}},
		{"m.l.x", []impl.Value{intOf(1), intOf(0), intOf(1)}},
		{"m.l.x.x", nil},
		{"x", nil},
		{"id", nil},
		{"A", nil},
	}
	for _, r := range rows {
		got, code := impl.GetPath(doc, r.path)
		if code != impl.OK || !slices.Equal(got, r.want) {
			t.Errorf("GetPath of %s: %v, %d, not %v", r.path, got, code, r.want)
		}
	}
}

func TestP3FirstPath(t *testing.T) {
	doc := pathDoc(t)
	rows := map[string]impl.Value{
		"a.b.c.d": textOf("end"),
		"e":       mustList(t),
		"l":       {},
		"l.x":     intOf(1),
		"m.l.x":   intOf(0),
		"m.l":     mustList(t, mustDoc(t, field("x", intOf(1))), mustDoc(t, field("x", intOf(0)))),
		"w":       intOf(4),
		"n":       {},
		"n.x":     {},
		"x":       {},
		"l.z":     {},
	}
	for path, want := range rows {
		if v, code := impl.FirstPath(doc, path); v != want || code != impl.OK {
			t.Errorf("FirstPath of %s: %v, %d, not %v", path, v, code, want)
		}
	}
}

func TestP3PathCodes(t *testing.T) {
	doc := mustDoc(t, field("a", intOf(1)))
	longest, longer := strings.Repeat("a", impl.MaxText), strings.Repeat("a", impl.MaxText+1)
	rows := []struct {
		what string
		doc  impl.Value
		path string
		code int
	}{
		{"a document", doc, "a", impl.OK},
		{"a list", mustList(t, doc), "a", impl.ErrBad},
		{"null", impl.Value{}, "a", impl.ErrBad},
		{"a text", textOf("a"), "a", impl.ErrBad},
		{"a wrong document", raw(impl.VaDoc, "x"), "a", impl.ErrBad},
		{"too deep a document", nested(6, impl.VaDoc), "a", impl.ErrBad},
		{"a document with an N", impl.Value{Kind: impl.VaDoc, N: 1}, "a", impl.ErrBad},
		{"no path", doc, "", impl.ErrPath},
		{"five names", doc, "a.a.a.a.a", impl.ErrPath},
		{"no path of a list", mustList(t), "a.", impl.ErrBad},
		{"MaxText bytes", doc, longest, impl.ErrPath},
		{"MaxText bytes of a list", mustList(t), longest, impl.ErrBad},
		{"one more", doc, longer, impl.ErrLong},
		{"one more of a list", mustList(t), longer, impl.ErrLong},
	}
	for _, r := range rows {
		list, code := impl.GetPath(r.doc, r.path)
		if code != r.code || code != impl.OK && len(list) != 0 {
			t.Errorf("GetPath, %s: %v, %d, not %d", r.what, list, code, r.code)
		}
		v, code := impl.FirstPath(r.doc, r.path)
		if code != r.code || code != impl.OK && v != (impl.Value{}) {
			t.Errorf("FirstPath, %s: %v, %d, not %d", r.what, v, code, r.code)
		}
	}
}

// randomPath has the names of random nodes.
func randomPath(r *rand.Rand) string {
	names := make([]string, 1+r.Intn(4))
	for i := range names {
		names[i] = randomNames(r, 1)[0]
	}
	return strings.Join(names, ".")
}

// randomDocs are nodes of documents of few names, so that paths often lead through them.
func randomDocs(seed int64, n int) []node {
	r := rand.New(rand.NewSource(seed))
	var list []node
	for len(list) < n {
		x := node{kind: impl.VaDoc, names: randomNames(r, 1+r.Intn(5))}
		for range x.names {
			x.items = append(x.items, randomNode(r, impl.MaxDeep-1))
		}
		if x.fits() {
			list = append(list, x)
		}
	}
	return list
}

// pathsOf are those that lead to something, through lists too.
func (x node) pathsOf(ahead string, room int) []string {
	var list []string
	for i, item := range x.items {
		switch {
		case room == 0:
		case x.kind == impl.VaDoc:
			list = append(list, ahead+x.names[i])
			list = append(list, item.pathsOf(ahead+x.names[i]+".", room-1)...)
		case item.kind == impl.VaDoc:
			list = append(list, item.pathsOf(ahead, room)...)
		}
	}
	return list
}

func least(list []node) node {
	if len(list) == 0 {
		return node{}
	}
	return slices.MinFunc(list, node.order)
}

func TestP3PathsOfRandomDocuments(t *testing.T) {
	r := rand.New(rand.NewSource(31))
	found := 0
	for _, x := range randomDocs(32, 1500) {
		paths := append(x.pathsOf("", 4), randomPath(r), randomPath(r))
		for _, path := range paths {
			want := x.comesTo(path)
			got, code := impl.GetPath(x.value(), path)
			if code != impl.OK || fmt.Sprint(texts(t, got)) != fmt.Sprint(want) {
				t.Errorf("GetPath of %s in %v: %q, %d, not %v", path, x, texts(t, got), code, want)
			}
			first, code := impl.FirstPath(x.value(), path)
			if code != impl.OK || first != least(want).value() {
				t.Errorf("FirstPath of %s in %v: %v, %d, not %v", path, x, first, code, least(want))
			}
			found += len(want)
		}
	}
	if found < 5000 {
		t.Errorf("the paths came to %d values only", found)
	}
}

func texts(t *testing.T, list []impl.Value) []string {
	t.Helper()
	var all []string
	for _, v := range list {
		s, code := impl.ValueText(v)
		if code != impl.OK {
			t.Errorf("ValueText of %v: %d", v, code)
		}
		all = append(all, s)
	}
	return all
}
