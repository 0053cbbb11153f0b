package tests

import (
	"fmt"
	"slices"
	"strings"
	"testing"

	"loop.example/g00380/impl"
)

// spareQuery is a query, with documents and indexes, whose lists have room behind their ends, and
// all that stands there.
type spareQuery struct {
	q       impl.Query
	terms   []impl.Term
	clauses []impl.Clause
	parts   []impl.Part
	keep    []string
	docs    []impl.Value
	list    []impl.Index
	index   *spareIndex
}

func newSpareQuery() *spareQuery {
	s := &spareQuery{
		terms: []impl.Term{term(impl.TeGte, strings.Clone("d.v"), textOf(strings.Clone("c"))), term(impl.TeExists, strings.Clone("id"), boolOf(1)), term(99, "9", boolOf(7)), {}},
		parts: []impl.Part{{Path: strings.Clone("d.v"), Desc: true}, {Path: strings.Clone("id"), Desc: true}, {Path: "9"}, {Path: ""}},
		keep:  []string{strings.Clone("d"), strings.Clone("id"), "9", ""},
		docs:  append(values([]node{listed(0, "b", "d", "f"), listed(1, "b"), listed(2, "d", "f"), listed(3, "d"), listed(7, "x")}), impl.Value{}, boolOf(7)),
		index: newSpareIndex(),
	}
	s.clauses = []impl.Clause{{Terms: s.terms[:2]}, {Terms: s.terms[:1]}, {Terms: s.terms}, {}}
	s.list = []impl.Index{s.index.x, {Def: def(strings.Clone("two"), "id"), Tree: tree(5, "3 k0 k3")}, {}, {Def: def("two", "9")}}
	s.q = impl.Query{Filter: impl.Filter{Any: s.clauses[:2]}, Sort: s.parts[:2], Limit: 4, Keep: s.keep[:2], Hint: strings.Clone("one")}
	return s
}

func (s *spareQuery) documents() []impl.Value { return s.docs[:5] }

func (s *spareQuery) indexes() []impl.Index { return s.list[:2] }

func sameQuery(a, b impl.Query) bool {
	return sameFilter(a.Filter, b.Filter) && slices.Equal(a.Sort, b.Sort) && a.Skip == b.Skip && a.Limit == b.Limit && slices.Equal(a.Keep, b.Keep) && a.Hint == b.Hint
}

func (s *spareQuery) same(o *spareQuery) bool {
	return sameQuery(s.q, o.q) && slices.Equal(s.terms, o.terms) && sameFilter(impl.Filter{Any: s.clauses}, impl.Filter{Any: o.clauses}) && slices.Equal(s.parts, o.parts) &&
		slices.Equal(s.keep, o.keep) && slices.Equal(s.docs, o.docs) && slices.EqualFunc(s.list, o.list, sameIndex) && s.index.same(o.index)
}

// texts are all that were handed in.
func (s *spareQuery) texts() []string {
	list := append(slices.Clone(s.keep), s.q.Hint)
	for _, x := range s.terms {
		list = append(list, x.Path, x.Value.T)
	}
	for _, p := range s.parts {
		list = append(list, p.Path)
	}
	for _, doc := range s.docs {
		list = append(list, doc.T)
	}
	for _, x := range s.list {
		list = append(append(list, keysOf(x.Tree)...), x.Def.Name)
	}
	return list
}

// lists are what the calls that answer documents have of it, with fields to keep and without.
func (s *spareQuery) lists() [][]impl.Value {
	whole := s.q
	whole.Keep, whole.Sort = nil, nil
	var all [][]impl.Value
	for _, q := range []impl.Query{s.q, whole} {
		found, _ := impl.FindDocs(q, s.documents())
		p, _ := impl.PlanOf(q, s.indexes())
		run, _ := impl.RunPlan(p, q, s.documents(), s.indexes())
		bare, _ := impl.RunPlan(impl.Plan{}, q, s.documents(), s.indexes())
		sorted, _ := impl.SortDocs(s.documents(), q.Sort)
		kept, _ := impl.KeepFields(s.docs[0], q.Keep)
		all = append(all, found, run, bare, sorted, []impl.Value{kept})
	}
	return all
}

func (s *spareQuery) plans() []impl.Plan {
	chosen := s.q
	chosen.Hint = ""
	p, _ := impl.PlanOf(s.q, s.indexes())
	o, _ := impl.PlanOf(chosen, s.indexes())
	i, _ := impl.FilterInterval(s.q.Filter, s.parts[0])
	return []impl.Plan{p, o, {Interval: i}}
}

func TestP1QueriesStayAsTheyAre(t *testing.T) {
	s, before := newSpareQuery(), newSpareQuery()
	if !impl.QueryOK(s.q) {
		t.Fatal("the query is not right")
	}
	for i, list := range s.lists() {
		if len(list) == 0 {
			t.Errorf("the call %d has no document", i)
		}
	}
	for i, p := range s.plans() {
		if p.Interval == (impl.Interval{}) {
			t.Errorf("the plan %d has no interval", i)
		}
	}
	impl.FindDocs(s.q, s.docs)
	impl.SortDocs(s.docs, s.parts)
	impl.KeepFields(s.docs[0], s.keep)
	impl.PlanOf(s.q, s.list)
	impl.FilterInterval(impl.Filter{Any: s.clauses}, s.parts[2])
	impl.RunPlan(impl.Plan{Index: "one"}, s.q, s.docs, s.list)
	if !s.same(before) {
		t.Error("a call changed its argument")
	}
}

func TestP1FoundDocumentsAreNew(t *testing.T) {
	s, before := newSpareQuery(), newSpareQuery()
	first, second, want := s.lists(), s.lists(), before.lists()
	for i, list := range first {
		clear(list[:cap(list)])
		for j := i + 1; j < len(first); j++ {
			if !slices.Equal(first[j], second[j]) {
				t.Fatalf("the answers %d and %d share a list", i, j)
			}
		}
	}
	if !s.same(before) {
		t.Fatal("an answer shares a list with its arguments")
	}
	clear(s.docs)
	clear(s.list)
	clear(s.keep)
	clear(s.parts)
	clear(s.terms)
	for i := range want {
		if !slices.Equal(second[i], want[i]) {
			t.Errorf("the answer %d hangs on what became of its arguments: %v", i, second[i])
		}
	}
}

func TestP1QueriesShareNoTexts(t *testing.T) {
	s := newSpareQuery()
	given := s.texts()
	for _, list := range s.lists() {
		var made []string
		for _, doc := range list {
			made = append(made, doc.T)
		}
		noOneShares(t, made, given)
	}
	for _, p := range s.plans() {
		noOneShares(t, []string{p.Index, p.Interval.Low, p.Interval.High}, given)
	}
	f := filter(clause(term(impl.TeLt, "a", textOf(strings.Repeat("abc", 9)))), clause(term(impl.TeEq, "a", textOf(strings.Repeat("abd", 9)))))
	for _, path := range []string{"a", "-a"} {
		i, _ := impl.FilterInterval(f, parts(path)[0])
		noOneShares(t, []string{i.Low, i.High}, []string{f.Any[0].Terms[0].Value.T, f.Any[1].Terms[0].Value.T})
	}
}

// toldPlans writes down all that the calls of chapter 8 answer to a value, and to its text.
func toldPlans(v impl.Value) string {
	var s strings.Builder
	tell := func(docs []impl.Value, code int) { fmt.Fprintf(&s, "%q %d\n", fmt.Sprint(docs), code) }
	inside := raw(impl.VaDoc, "\x01a"+string(rawBytes(v))+"\x02id"+string(rawBytes(intOf(3))))
	docs := []impl.Value{record("a", num(1), "id", num(1)).value(), inside}
	kept, code := impl.KeepFields(inside, []string{"a"})
	tell([]impl.Value{kept}, code)
	kept, code = impl.KeepFields(v, []string{v.T})
	tell([]impl.Value{kept}, code)
	tell(impl.SortDocs(docs, parts("-a", v.T)))
	tell(impl.SortDocs(docs, parts("-a")))
	x, _ := impl.BuildIndex(def("one", "a"), docs)
	y, _ := impl.BuildIndex(def("two", "-a", "id"), docs)
	for _, f := range []impl.Filter{where(term(impl.TeEq, "a", v)), filter(clause(term(impl.TeGt, "a", v)), clause(term(impl.TeLt, "a", intOf(9)))), everything()} {
		for _, q := range []impl.Query{{Filter: f}, {Filter: f, Hint: v.T}, {Filter: f, Hint: "two", Sort: parts("-a")}, {Filter: f, Skip: v.N, Limit: v.N}, {Filter: f, Keep: []string{v.T}}} {
			fmt.Fprintln(&s, impl.QueryOK(q))
			tell(impl.FindDocs(q, docs))
			for _, list := range [][]impl.Index{nil, {x}, {x, y}} {
				p, code := impl.PlanOf(q, list)
				fmt.Fprintln(&s, p.Index, shown(p.Interval), p.Looked, code)
				tell(impl.RunPlan(p, q, docs, list))
				tell(impl.RunPlan(impl.Plan{Index: v.T, Interval: from(v.T), Looked: v.N}, q, docs, list))
				tell(impl.RunPlan(impl.Plan{Index: "one", Interval: from(v.T)}, q, []impl.Value{v}, list))
			}
		}
		for _, path := range []string{"a", "-a", v.T} {
			i, code := impl.FilterInterval(f, parts(path)[0])
			fmt.Fprintln(&s, shown(i), code)
		}
	}
	return s.String()
}
