package tests

import (
	"fmt"
	"math/rand"
	"slices"
	"strings"
	"testing"

	"loop.example/g00380/impl"
)

// findIs holds FindDocs, and RunPlan without an Index, to what a query has.
func findIs(t *testing.T, q impl.Query, docs []node, want ...node) {
	t.Helper()
	list, code := impl.FindDocs(q, values(docs))
	if !slices.Equal(list, values(want)) || code != impl.OK {
		t.Errorf("FindDocs of %v: %q, %d, not %v", q, texts(t, list), code, want)
	}
	list, code = impl.RunPlan(impl.Plan{}, q, values(docs), nil)
	if !slices.Equal(list, values(want)) || code != impl.OK {
		t.Errorf("RunPlan of %v: %q, %d, not %v", q, texts(t, list), code, want)
	}
}

// idsOf are the documents' ids, a blank between.
func idsOf(docs []impl.Value) string {
	var list []string
	for _, doc := range docs {
		id, code := impl.IdOf(doc)
		if code != impl.OK {
			return fmt.Sprint("no id: ", doc)
		}
		list = append(list, fmt.Sprint(id))
	}
	return strings.Join(list, " ")
}

// sortIs holds SortDocs, and FindDocs of a query of all, to an order of ids.
func sortIs(t *testing.T, docs []node, paths []string, want string) {
	t.Helper()
	list, code := impl.SortDocs(values(docs), parts(paths...))
	if idsOf(list) != want || code != impl.OK {
		t.Errorf("SortDocs by %v: %s, %d, not %s", paths, idsOf(list), code, want)
	}
	for _, doc := range list {
		if !slices.Contains(values(docs), doc) {
			t.Errorf("SortDocs by %v: %v was not there", paths, doc)
		}
	}
	found, code := impl.FindDocs(impl.Query{Filter: everything(), Sort: parts(paths...)}, values(docs))
	if !slices.Equal(found, list) || code != impl.OK {
		t.Errorf("FindDocs by %v: %s, %d, not %s", paths, idsOf(found), code, want)
	}
}

func TestP8SortOfFew(t *testing.T) {
	for _, paths := range [][]string{nil, {}, {"a"}, {"-a"}, {"a", "-b"}, {"-id", "id"}} {
		sortIs(t, nil, paths, "")
		sortIs(t, []node{}, paths, "")
		sortIs(t, numbered(7, num(1)), paths, "7")
	}
	if list, code := impl.SortDocs(nil, nil); len(list) != 0 || code != impl.OK {
		t.Errorf("SortDocs of nothing: %v, %d", list, code)
	}
}

func TestP8SortByOnePath(t *testing.T) {
	docs := numbered(1, num(3), num(1), num(2), num(1), num(-1), num(3))
	sortIs(t, docs, nil, "1 2 3 4 5 6")
	sortIs(t, docs, []string{"a"}, "5 2 4 3 1 6")
	sortIs(t, docs, []string{"-a"}, "1 6 3 2 4 5")
	sortIs(t, docs, []string{"id"}, "1 2 3 4 5 6")
	sortIs(t, docs, []string{"-id"}, "6 5 4 3 2 1")
	// Where nothing is told apart, ids rise, falling or not.
	sortIs(t, docs, []string{"no"}, "1 2 3 4 5 6")
	sortIs(t, docs, []string{"-no"}, "1 2 3 4 5 6")
	sortIs(t, numbered(90, num(5), num(5), num(5)), []string{"-a"}, "90 91 92")
}

func TestP8SortByTwoPaths(t *testing.T) {
	row := func(id, a, b int) node { return record("a", num(a), "b", num(b), "id", num(id)) }
	docs := []node{row(1, 2, 1), row(2, 1, 2), row(3, 2, 2), row(4, 1, 1), row(5, 2, 1), row(6, 1, 2)}
	for _, r := range []struct {
		paths []string
		want  string
	}{
		{[]string{"a", "b"}, "4 2 6 1 5 3"}, {[]string{"-a", "b"}, "1 5 3 4 2 6"}, {[]string{"a", "-b"}, "2 6 4 3 1 5"}, {[]string{"-a", "-b"}, "3 1 5 2 6 4"},
		{[]string{"b", "a"}, "4 1 5 2 6 3"}, {[]string{"-b", "a"}, "2 6 3 4 1 5"}, {[]string{"b", "-a"}, "1 5 4 3 2 6"}, {[]string{"-b", "-a"}, "3 2 6 1 5 4"},
		{[]string{"a", "-id"}, "6 4 2 5 3 1"}, {[]string{"-a", "-id"}, "5 3 1 6 4 2"}, {[]string{"-id", "a"}, "6 5 4 3 2 1"}, {[]string{"id", "-a"}, "1 2 3 4 5 6"},
		{[]string{"a", "a"}, "2 4 6 1 3 5"}, {[]string{"a", "-a"}, "2 4 6 1 3 5"}, {[]string{"-a", "a"}, "1 3 5 2 4 6"},
		{[]string{"no", "a"}, "2 4 6 1 3 5"}, {[]string{"-no", "-a"}, "1 3 5 2 4 6"}, {[]string{"a", "-no"}, "2 4 6 1 3 5"}, {[]string{"no", "-none"}, "1 2 3 4 5 6"},
	} {
		sortIs(t, docs, r.paths, r.want)
	}
}

// What a path comes to first is its least value: of a list an item, if there is a lesser one.
func TestP8SortByLists(t *testing.T) {
	docs := []node{
		record("a", many(num(5), num(2)), "id", num(1)), record("a", num(3), "id", num(2)), record("a", many(), "id", num(3)),
		record("a", many(num(9), num(1), num(4)), "id", num(4)), record("a", many(record("x", num(1))), "id", num(5)), record("a", many(node{}, num(9)), "id", num(6)),
		record("a", many(many(num(0))), "id", num(7)), record("a", num(1), "id", num(8)),
	}
	sortIs(t, docs, []string{"a"}, "6 4 8 1 2 3 7 5")
	// Falling, too, it is the least one that counts, not the greatest.
	sortIs(t, docs, []string{"-a"}, "5 7 3 2 1 4 8 6")
	inner := []node{
		record("a", many(record("x", num(4)), record("x", num(2))), "id", num(1)), record("a", record("x", num(3)), "id", num(2)),
		record("a", many(record("y", num(0))), "id", num(3)), record("a", many(record("x", many(num(7), num(1)))), "id", num(4)), record("id", num(5)),
	}
	sortIs(t, inner, []string{"a.x"}, "3 5 4 1 2")
	sortIs(t, inner, []string{"-a.x"}, "2 1 4 3 5")
}

func TestP8SortByUnlikeKinds(t *testing.T) {
	docs := numbered(1, record(), many(), word(""), num(-5), node{kind: impl.VaBool}, node{}, word("z"), record("x", num(1)), node{kind: impl.VaBool, n: 1}, num(5))
	docs = append(docs, record("id", num(11)))
	sortIs(t, docs, []string{"a"}, "6 11 5 9 4 10 3 7 2 1 8")
	sortIs(t, docs, []string{"-a"}, "8 1 2 7 3 10 4 9 5 6 11")
	sortIs(t, docs, []string{"-a", "-id"}, "8 1 2 7 3 10 4 9 5 11 6")
}

func wantKept(t *testing.T, x node, keep []string, want node) {
	t.Helper()
	if v, code := impl.KeepFields(x.value(), keep); v != want.value() || code != impl.OK {
		t.Errorf("KeepFields of %q in %v: %q, %d, not %v", keep, x, texts(t, []impl.Value{v}), code, want)
	}
	if _, there := x.field("id"); there {
		findIs(t, impl.Query{Filter: everything(), Keep: keep}, []node{x}, want)
	}
}

func TestP8KeepFields(t *testing.T) {
	deep := record("c", many(record("b", num(1)), num(2)))
	x := record("a", num(1), "b", deep, "id", num(7), "z", word("t"))
	wantKept(t, x, nil, x)
	wantKept(t, x, []string{}, x)
	wantKept(t, x, []string{"a"}, record("a", num(1), "id", num(7)))
	wantKept(t, x, []string{"b"}, record("b", deep, "id", num(7)))
	wantKept(t, x, []string{"z", "a"}, record("a", num(1), "id", num(7), "z", word("t")))
	wantKept(t, x, []string{"z", "b", "a"}, x)
	wantKept(t, x, []string{"a", "a"}, record("a", num(1), "id", num(7)))
	wantKept(t, x, []string{"a", "z", "a", "z"}, record("a", num(1), "id", num(7), "z", word("t")))
	wantKept(t, x, []string{"id"}, record("id", num(7)))
	wantKept(t, x, []string{"id", "id", "id", "id"}, record("id", num(7)))
	wantKept(t, x, []string{"id", "a"}, record("a", num(1), "id", num(7)))
	wantKept(t, x, []string{"no"}, record("id", num(7)))
	wantKept(t, x, []string{"c"}, record("id", num(7)))
	wantKept(t, x, []string{"A", "aa", "i", "idd"}, record("id", num(7)))
	wantKept(t, x, []string{"no", "b"}, record("b", deep, "id", num(7)))
	// A document need not have an id for this, nor a right one.
	for _, y := range []node{record(), record("a", num(1)), record("a", num(1), "ie", word("x")), record("ie", record("id", num(1)))} {
		wantKept(t, y, nil, y)
		wantKept(t, y, []string{"a", "ie"}, y)
		wantKept(t, y, []string{"id"}, record())
	}
	odd := record("a", num(1), "id", word("x"))
	if v, code := impl.KeepFields(odd.value(), []string{"no"}); v != record("id", word("x")).value() || code != impl.OK {
		t.Errorf("KeepFields with an id that is a text: %v, %d", v, code)
	}
	full := record("a", word(strings.Repeat("x", 281)), "id", num(1))
	wantKept(t, full, nil, full)
	wantKept(t, full, []string{"a"}, full)
	wantKept(t, full, []string{"b"}, record("id", num(1)))
}

func TestP8KeepCodes(t *testing.T) {
	doc := record("a", num(1), "id", num(1)).value()
	long := strings.Repeat("n", 13)
	type row struct {
		what string
		doc  impl.Value
		keep []string
		code int
	}
	rows := []row{
		{"a name of 12", doc, []string{strings.Repeat("n", 12)}, impl.OK},
		{"a name of 13", doc, []string{long}, impl.ErrName},
		{"a name of 13 behind a right one", doc, []string{"a", long}, impl.ErrName},
		{"an empty name", doc, []string{""}, impl.ErrName},
		{"a path", doc, []string{"a.b"}, impl.ErrName},
		{"no name among four", doc, []string{"a", "b", "9", "c"}, impl.ErrName},
		{"four names", doc, shortNames(4), impl.OK},
		{"five names", doc, shortNames(5), impl.ErrBad},
		{"five that are none", doc, slices.Repeat([]string{"9"}, 5), impl.ErrBad},
		{"MaxList names", doc, shortNames(impl.MaxList), impl.ErrBad},
		{"one more", doc, shortNames(impl.MaxList + 1), impl.ErrLong},
		{"one more that are none", doc, slices.Repeat([]string{"9"}, impl.MaxList+1), impl.ErrLong},
		{"a name of MaxText", doc, []string{strings.Repeat("n", impl.MaxText)}, impl.ErrName},
		{"a name beyond MaxText", doc, []string{strings.Repeat("n", impl.MaxText+1)}, impl.ErrName},
	}
	for what, v := range noDocuments() {
		rows = append(rows,
			row{what, v, nil, impl.ErrBad},
			row{what + ", a name", v, []string{"id"}, impl.ErrBad},
			row{what + ", no name", v, []string{"9"}, impl.ErrBad},
			row{what + ", too many names", v, shortNames(impl.MaxList + 1), impl.ErrLong},
		)
	}
	for _, r := range rows {
		if v, code := impl.KeepFields(r.doc, r.keep); code != r.code || code != impl.OK && v != (impl.Value{}) {
			t.Errorf("KeepFields, %s: %v, %d, not %d", r.what, v, code, r.code)
		}
	}
}

func TestP8FindLetsIn(t *testing.T) {
	docs := numbered(1, num(5), many(num(3), num(9)), node{}, num(7), word("x"))
	docs = append(docs, record("id", num(6)))
	findIs(t, impl.Query{Filter: everything()}, docs, docs...)
	findIs(t, impl.Query{Filter: everything()}, nil)
	findIs(t, impl.Query{Filter: where(term(impl.TeGt, "a", intOf(6)))}, docs, docs[1], docs[3])
	findIs(t, impl.Query{Filter: where(term(impl.TeGt, "a", intOf(4)), term(impl.TeLt, "a", intOf(6)))}, docs, docs[0], docs[1])
	findIs(t, impl.Query{Filter: where(term(impl.TeEq, "a", impl.Value{}))}, docs, docs[2], docs[5])
	findIs(t, impl.Query{Filter: where(term(impl.TeExists, "a", boolOf(0)))}, docs, docs[5])
	findIs(t, impl.Query{Filter: where(term(impl.TeEq, "a", intOf(8)))}, docs)
	findIs(t, impl.Query{Filter: filter(clause(term(impl.TeEq, "a", textOf("x"))), clause(term(impl.TeLt, "a", intOf(4))))}, docs, docs[1], docs[4])
	findIs(t, impl.Query{Filter: filter(clause(term(impl.TeEq, "a", textOf("x"))), clause())}, docs, docs...)
	// A Hint changes nothing.
	findIs(t, impl.Query{Filter: where(term(impl.TeGt, "a", intOf(6))), Hint: "none"}, docs, docs[1], docs[3])
}

func TestP8SkipAndLimit(t *testing.T) {
	docs := numbered(10, num(4), num(3), num(2), num(1), num(0))
	for skip := range 8 {
		for limit := range 8 {
			list, backward := docs, slices.Clone(docs)
			slices.Reverse(backward)
			for range min(skip, 5) {
				list, backward = list[1:], backward[1:]
			}
			for limit > 0 && len(list) > limit {
				list, backward = list[:len(list)-1], backward[:len(backward)-1]
			}
			findIs(t, impl.Query{Filter: everything(), Skip: skip, Limit: limit}, docs, list...)
			findIs(t, impl.Query{Filter: everything(), Skip: skip, Limit: limit, Sort: parts("a")}, docs, backward...)
		}
	}
	findIs(t, impl.Query{Filter: everything(), Skip: 100}, docs)
	findIs(t, impl.Query{Filter: everything(), Skip: 100, Limit: 100}, docs)
	findIs(t, impl.Query{Filter: everything(), Limit: 100}, docs, docs...)
	findIs(t, impl.Query{Filter: everything(), Skip: 4, Limit: 100}, docs, docs[4])
	// Only what the filter lets in is counted.
	some := where(term(impl.TeLt, "a", intOf(3)))
	findIs(t, impl.Query{Filter: some, Skip: 1, Limit: 1}, docs, docs[3])
	findIs(t, impl.Query{Filter: some, Skip: 3}, docs)
	findIs(t, impl.Query{Filter: some, Limit: 3}, docs, docs[2:]...)
}

// Documents are let in and sorted by fields that are not kept, and lose them only then.
func TestP8KeepComesLast(t *testing.T) {
	var docs, want []node
	for id, a := range []int{2, 0, 1} {
		docs = append(docs, record("a", num(a), "b", num(10+a), "id", num(id)))
	}
	for _, id := range []int{0, 2} {
		want = append(want, record("b", docs[id].items[1], "id", num(id)))
	}
	q := impl.Query{Filter: where(term(impl.TeGt, "a", intOf(0))), Sort: parts("-a"), Keep: []string{"b"}}
	findIs(t, q, docs, want...)
	q.Skip = 1
	findIs(t, q, docs, want[1])
	q.Skip, q.Limit = 0, 1
	findIs(t, q, docs, want[0])
}

// wrongFinds holds all calls of many documents to it that these aren't right.
func wrongFinds(t *testing.T, what string, docs []impl.Value, code int) {
	t.Helper()
	x := impl.Index{Def: def("one", "a"), Tree: impl.NewTree()}
	if list, c := impl.SortDocs(docs, nil); len(list) != 0 || c != code {
		t.Errorf("SortDocs, %s: %d documents, %d, not %d", what, len(list), c, code)
	}
	if list, c := impl.SortDocs(docs, parts("a", "b", "9")); len(list) != 0 || c != code {
		t.Errorf("SortDocs by wrong paths, %s: %d documents, %d, not %d", what, len(list), c, code)
	}
	for _, q := range []impl.Query{{Filter: everything()}, {}} {
		if list, c := impl.FindDocs(q, docs); len(list) != 0 || c != code {
			t.Errorf("FindDocs, %s: %d documents, %d, not %d", what, len(list), c, code)
		}
		for _, p := range []impl.Plan{{}, {Index: "one"}, {Index: "none"}} {
			for _, indexes := range [][]impl.Index{{x}, {x, x}} {
				if list, c := impl.RunPlan(p, q, docs, indexes); len(list) != 0 || c != code {
					t.Errorf("RunPlan, %s: %d documents, %d, not %d", what, len(list), c, code)
				}
			}
		}
		wrongAgrees(t, what, q, docs, code)
	}
}

func TestP8WrongDocuments(t *testing.T) {
	one, two := record("id", num(1)).value(), record("id", num(2)).value()
	for what, v := range noDocuments() {
		for _, docs := range [][]impl.Value{{v}, {v, two}, {one, v}, {one, v, two}} {
			wrongFinds(t, what, docs, impl.ErrBad)
		}
	}
	for _, x := range []node{record(), record("a", num(1)), record("id", num(-1)), record("id", num(100)), record("id", node{}), record("id", word("1"))} {
		wrongFinds(t, x.String(), []impl.Value{x.value()}, impl.ErrBad)
		wrongFinds(t, x.String(), []impl.Value{one, x.value()}, impl.ErrBad)
	}
	wrongFinds(t, "an id twice", []impl.Value{one, one}, impl.ErrBad)
	wrongFinds(t, "falling ids", []impl.Value{two, one}, impl.ErrBad)
	wrongFinds(t, "falling ids at the end", []impl.Value{one, two, record("id", num(0)).value()}, impl.ErrBad)
	docs := make([]node, 0, impl.MaxList+1)
	for i := range impl.MaxList + 1 {
		docs = append(docs, record("id", num(i)))
	}
	for _, n := range []int{impl.MaxDocs + 1, 100, impl.MaxList} {
		wrongFinds(t, fmt.Sprint(n, " documents"), values(docs[:n]), impl.ErrBad)
	}
	wrongFinds(t, "beyond MaxList", values(docs), impl.ErrLong)
	wrongFinds(t, "nulls beyond MaxList", make([]impl.Value, impl.MaxList+1), impl.ErrLong)
	for _, first := range []impl.Value{{}, one} {
		for n, code := range map[int]int{3: impl.ErrBad, impl.MaxList: impl.ErrBad, impl.MaxList + 1: impl.ErrLong} {
			if list, c := impl.SortDocs([]impl.Value{first}, slices.Repeat(parts("a"), n)); len(list) != 0 || c != code {
				t.Errorf("SortDocs by %d paths: %v, %d, not %d", n, list, c, code)
			}
		}
	}
}

// isAhead is chapter 8's word on which of two documents comes first, of nodes.
func isAhead(a, b node, sort []impl.Part) bool {
	for _, p := range sort {
		if c := least(a.comesTo(p.Path)).order(least(b.comesTo(p.Path))); c != 0 {
			return (c < 0) != p.Desc
		}
	}
	return a.id() < b.id()
}

// meaning is chapter 8's word on a query, of nodes.
func meaning(t *testing.T, q impl.Query, docs []node) []node {
	t.Helper()
	var rows []node
	for _, x := range docs {
		if !letsIn(t, q.Filter, x.value()) {
			continue
		}
		at := 0
		for at < len(rows) && isAhead(rows[at], x, q.Sort) {
			at++
		}
		rows = slices.Insert(rows, at, x)
	}
	var list []node
	for i, x := range rows {
		if i < q.Skip || q.Limit > 0 && i >= q.Skip+q.Limit {
			continue
		}
		y := node{kind: impl.VaDoc}
		for j, name := range x.names {
			if len(q.Keep) == 0 || name == "id" || slices.Contains(q.Keep, name) {
				y.names, y.items = append(y.names, name), append(y.items, x.items[j])
			}
		}
		list = append(list, y)
	}
	return list
}

// poolOf are documents of pool, by their ids.
func poolOf(r *rand.Rand, n int) []node {
	list := pool(r, n)
	slices.SortStableFunc(list, func(a, b node) int { return a.id() - b.id() })
	return slices.CompactFunc(list, func(a, b node) bool { return a.id() == b.id() })
}

// poolTerm is of a value that a document of pool has, or nearly.
func poolTerm(r *rand.Rand, docs []node, op int, path string) impl.Term {
	for {
		if v := termNode(r, op, append(pick(r, docs).comesTo(path), num(1), num(2), word("a"))); v.fits() {
			return term(op, path, v.value())
		}
	}
}

// poolFilter often has a term on one path in each of its clauses.
func poolFilter(r *rand.Rand, docs []node) impl.Filter {
	paths := []string{"a", "b", "b.c", "id", "no"}
	main, f := pick(r, paths), impl.Filter{}
	for range pick(r, []int{1, 1, 2, impl.MaxClauses}) {
		c := impl.Clause{}
		for range pick(r, []int{0, 0, 1, 2}) {
			c.Terms = append(c.Terms, poolTerm(r, docs, pick(r, allTerms), pick(r, paths)))
		}
		if r.Intn(6) > 0 {
			op := pick(r, []int{impl.TeEq, impl.TeLt, impl.TeLte, impl.TeGt, impl.TeGte, impl.TeType})
			c.Terms = slices.Insert(c.Terms, r.Intn(len(c.Terms)+1), poolTerm(r, docs, op, main))
		}
		f.Any = append(f.Any, c)
	}
	return f
}

func poolQuery(r *rand.Rand, docs []node) impl.Query {
	q := impl.Query{Filter: poolFilter(r, docs)}
	paths := []string{"a", "-a", "b", "-b", "b.c", "-b.c", "id", "-id", "no"}
	for range r.Intn(3) {
		q.Sort = append(q.Sort, parts(pick(r, paths))...)
	}
	if r.Intn(3) == 0 {
		q.Skip = r.Intn(4)
	}
	if r.Intn(3) == 0 {
		q.Limit = r.Intn(6)
	}
	for range r.Intn(3) {
		q.Keep = append(q.Keep, pick(r, []string{"a", "b", "c", "id"}))
	}
	return q
}

func TestP8RandomQueries(t *testing.T) {
	r := rand.New(rand.NewSource(81))
	several := 0
	for range 2500 {
		docs := poolOf(r, 1+r.Intn(20))
		q := poolQuery(r, docs)
		want := meaning(t, q, docs)
		findIs(t, q, docs, want...)
		if 1 < len(want) && len(want) < len(docs) {
			several++
		}
		var sorted []impl.Value
		for _, x := range meaning(t, impl.Query{Filter: everything(), Sort: q.Sort}, docs) {
			sorted = append(sorted, x.value())
		}
		if list, code := impl.SortDocs(values(docs), q.Sort); !slices.Equal(list, sorted) || code != impl.OK {
			t.Errorf("SortDocs of %v by %v: %s, %d, not %s", docs, q.Sort, idsOf(list), code, idsOf(sorted))
		}
	}
	if several < 300 {
		t.Errorf("%d queries had some of their documents only", several)
	}
}
