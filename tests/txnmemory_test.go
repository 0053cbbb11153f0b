package tests

import (
	"fmt"
	"slices"
	"strings"
	"testing"

	"loop.example/g00380/impl"
)

// spareTxn is a transaction, with all that may be handed in beside it, whose lists have room behind
// their ends, and all that stands there.
type spareTxn struct {
	x       impl.Txn
	coll    *spareColl
	dones   *spareDones
	query   *spareQuery
	writes  []impl.Write
	updates []impl.Update
	colls   []impl.Coll
	docs    []impl.Value
}

// newSpareTxn has a snapshot that sees 1, 5 and 9, and of these writes 5 and 9, of others 0 and 14.
func newSpareTxn() *spareTxn {
	s := &spareTxn{coll: newSpareColl(), dones: newSpareDones(), query: newSpareQuery()}
	for _, text := range []string{"a.3=1", "0=5", "5=6", "9-", "14-", "more.3=1", "zz.1=1", "9=9", "9-"} {
		w := writeOf(text)
		w.Coll = strings.Clone(w.Coll)
		s.writes = append(s.writes, w)
	}
	s.updates = []impl.Update{update(impl.UpSet, strings.Clone("a.b"), textOf(strings.Clone("abc"))), update(impl.UpInc, strings.Clone("k"), intOf(2)), {Op: 9, Path: "9"}, {}}
	s.colls = []impl.Coll{named(strings.Clone("a"), "3 1=2 4-"), s.coll.c, named(strings.Clone("more"), "3 1=2"), named("more", "3 1=2"), {}}
	s.docs = []impl.Value{thing(3, 7), thing(1, 7), thing(20, 7), {}, {Kind: 9}}
	s.x = impl.Txn{Session: 2, Snap: 3, Reads: s.dones.reads[:3], Writes: s.writes[:6]}
	return s
}

func (s *spareTxn) same(o *spareTxn) bool {
	return sameTxn(s.x, o.x) && s.coll.same(o.coll) && s.dones.same(o.dones) && s.query.same(o.query) && slices.Equal(s.writes, o.writes) &&
		slices.Equal(s.updates, o.updates) && slices.EqualFunc(s.colls, o.colls, sameColl) && slices.Equal(s.docs, o.docs)
}

// full is the transaction with as many reads as there may be.
func (s *spareTxn) full() impl.Txn {
	x := s.x
	x.Reads = slices.Concat(s.dones.reads[:12], s.dones.reads[:8])
	return x
}

func (s *spareTxn) queries() []impl.Query {
	clauses := s.dones.clauses
	return []impl.Query{
		{Filter: everything()},
		{Filter: impl.Filter{Any: clauses[4:7]}, Sort: parts("-k")},
		{Filter: above(3), Keep: s.query.keep[:2], Sort: s.query.parts[:2]},
		{Filter: impl.Filter{Any: clauses[2:3]}},
		s.query.q,
	}
}

// An answered is one answer of a call in a transaction, or of another that has lists.
type answered struct {
	x       impl.Txn
	docs    []impl.Value
	changes []impl.Change
}

func (s *spareTxn) made() []answered {
	var all []answered
	add := func(x impl.Txn, r impl.Reply, code int) { all = append(all, answered{x: x, docs: r.Docs}) }
	for _, x := range []impl.Txn{s.x, s.full(), {Snap: 2}} {
		for _, q := range s.queries() {
			add(impl.TxnFind(x, s.coll.c, q))
			add(impl.TxnUpdate(x, s.coll.c, q.Filter, s.updates[:2]))
			add(impl.TxnUpdate(x, s.coll.c, q.Filter, s.updates[:1]))
			add(impl.TxnUpdate(x, s.coll.c, q.Filter, []impl.Update{update(impl.UpPush, "k", intOf(1))}))
			add(impl.TxnDelete(x, s.coll.c, q.Filter))
		}
		for _, doc := range s.docs {
			add(impl.TxnInsert(x, s.coll.c, doc))
		}
		docs, _ := impl.TxnDocs(x, s.coll.c)
		changes, _ := impl.ChangesOf(x, s.colls[:3])
		all = append(all, answered{docs: docs}, answered{changes: changes})
	}
	return all
}

func sameAnswer(a, b answered) bool {
	return sameTxn(a.x, b.x) && slices.Equal(a.docs, b.docs) && slices.Equal(a.changes, b.changes)
}

func TestP1TransactionsStayAsTheyAre(t *testing.T) {
	s, before := newSpareTxn(), newSpareTxn()
	if !impl.TxnOK(s.x) || !impl.TxnOK(s.full()) || !s.same(before) {
		t.Fatal("the transaction is not right")
	}
	codes := map[int]int{}
	for _, x := range []impl.Txn{s.x, s.full()} {
		for _, doc := range s.docs[:3] {
			_, r, _ := impl.TxnInsert(x, s.coll.c, doc)
			codes[r.Code]++
		}
		_, r, _ := impl.TxnUpdate(x, s.coll.c, everything(), s.updates[:2])
		codes[r.Code]++
	}
	if codes[impl.OK] != 2 || codes[impl.ErrTwice] != 1 || codes[impl.ErrRange] != 2 || codes[impl.ErrFull] != 3 {
		t.Errorf("the codes %v", codes)
	}
	s.made()
	impl.TxnUpdate(s.x, s.coll.c, everything(), s.updates)
	impl.ChangesOf(s.x, s.colls)
	impl.TxnOK(impl.Txn{Reads: s.dones.reads, Writes: s.writes})
	impl.ReplyText(impl.Reply{N: 3, Docs: s.docs[:3]})
	impl.ReplyText(impl.Reply{Docs: s.docs})
	if !s.same(before) {
		t.Errorf("a call changed its argument: %s", shownTxn(s.x))
	}
}

// wipedAnswer clears all that an answer reaches, list by list: no other list of it may feel it.
func wipedAnswer(t *testing.T, a answered) {
	t.Helper()
	writes, docs := slices.Clone(a.x.Writes), slices.Clone(a.docs)
	wipedDones(t, []impl.Done{{Reads: a.x.Reads, Changes: a.changes}})
	if !slices.Equal(a.x.Writes, writes) || !slices.Equal(a.docs, docs) {
		t.Fatal("reads share memory with another list")
	}
	clear(a.x.Writes[:cap(a.x.Writes)])
	if !slices.Equal(a.docs, docs) {
		t.Fatal("writes share memory with documents")
	}
	clear(a.docs[:cap(a.docs)])
}

func TestP1AnswersOfTransactionsAreNew(t *testing.T) {
	s, before := newSpareTxn(), newSpareTxn()
	first, second, want := s.made(), s.made(), before.made()
	for i, a := range first {
		if !sameAnswer(a, second[i]) {
			t.Fatalf("the answer %d: %s, then %s", i, shownTxn(a.x), shownTxn(second[i].x))
		}
		wipedAnswer(t, a)
		if !s.same(before) {
			t.Fatalf("the answer %d shares lists with its argument", i)
		}
		for j := i + 1; j < len(first); j++ {
			if !sameAnswer(first[j], second[j]) {
				t.Fatalf("the answers %d and %d share a list", i, j)
			}
		}
	}
	clear(s.writes)
	clear(s.updates)
	clear(s.colls)
	clear(s.docs)
	clear(s.dones.reads)
	clear(s.dones.clauses)
	clear(s.dones.terms)
	clear(s.query.terms)
	clear(s.query.clauses)
	clear(s.coll.versions)
	clear(s.coll.chains)
	for i := range want {
		if !sameAnswer(second[i], want[i]) {
			t.Errorf("the answer %d hangs on what became of its argument: %s, not %s", i, shownTxn(second[i].x), shownTxn(want[i].x))
		}
	}
}

func textsOfAnswer(a answered) []string {
	list := textsOfDones([]impl.Done{{Reads: a.x.Reads, Changes: a.changes}})
	for _, w := range a.x.Writes {
		list = append(list, w.Coll, w.Doc.T)
	}
	for _, doc := range a.docs {
		list = append(list, doc.T)
	}
	return list
}

func TestP1TransactionsShareNoTexts(t *testing.T) {
	s := newSpareTxn()
	given := slices.Concat(textsOfDones(slices.Concat(s.dones.list, s.dones.next)), s.coll.texts(), s.query.texts(), textsOfAnswer(answered{x: impl.Txn{Writes: s.writes}, docs: s.docs}))
	for _, u := range s.updates {
		given = append(given, u.Path, u.Value.T)
	}
	for _, c := range s.colls {
		given = append(given, textsIn(c)...)
	}
	for _, a := range s.made() {
		noOneShares(t, textsOfAnswer(a), given)
	}
	text, _ := impl.ReplyText(impl.Reply{N: 1, Docs: s.docs[:1]})
	noOneShares(t, []string{text}, given)
}

// toldTxns writes down all that the calls of chapter 11 answer to a value, and to its text.
func toldTxns(v impl.Value) string {
	var s strings.Builder
	inside := raw(impl.VaDoc, "\x01a"+string(rawBytes(v))+"\x02id"+string(rawBytes(intOf(3))))
	tell := func(x impl.Txn, r impl.Reply, code int) {
		text, c := impl.ReplyText(r)
		fmt.Fprintf(&s, "%q %q %d %q %d\n", fmt.Sprint(x), fmt.Sprint(r), code, text, c)
	}
	c := impl.Coll{Name: "docs", Chains: []impl.Chain{chain("1 2=1"), {Id: 3, Versions: []impl.Version{{At: 2, Doc: inside}}}}}
	for _, x := range []impl.Txn{
		{Snap: 2}, {Session: v.Kind, Snap: 5, Writes: []impl.Write{put(1, 9), {Coll: "docs", Id: 3, Doc: inside}}}, {Snap: v.N, Writes: []impl.Write{gone(v.Kind), gone(3)}}, {Writes: []impl.Write{{Coll: v.T, Id: v.N, Doc: v}}},
	} {
		for _, f := range []impl.Filter{where(term(impl.TeEq, "a", v)), where(term(v.Kind, "a", v), term(impl.TeGt, v.T, v)), everything()} {
			for _, d := range []impl.Coll{c, {Name: v.T}} {
				tell(impl.TxnFind(x, d, impl.Query{Filter: f, Sort: parts("a")}))
				tell(impl.TxnFind(x, d, impl.Query{Filter: f, Skip: v.N, Hint: v.T}))
				tell(impl.TxnUpdate(x, d, f, []impl.Update{update(impl.UpPush, "a", v)}))
				tell(impl.TxnUpdate(x, d, f, []impl.Update{incK[0], update(v.Kind, v.T, v)}))
				tell(impl.TxnDelete(x, d, f))
			}
		}
		for _, doc := range []impl.Value{v, inside} {
			tell(impl.TxnInsert(x, coll(""), doc))
			tell(impl.TxnInsert(x, c, doc))
		}
		docs, code := impl.TxnDocs(x, c)
		changes, k := impl.ChangesOf(x, []impl.Coll{c})
		fmt.Fprintf(&s, "%v %q %d %q %d\n", impl.TxnOK(x), fmt.Sprint(docs), code, fmt.Sprint(changes), k)
	}
	tell(impl.Txn{}, impl.Reply{Code: v.Kind, N: v.N, Docs: []impl.Value{v, inside}}, 0)
	tell(impl.Txn{}, impl.Reply{Code: v.N, Docs: []impl.Value{inside}}, 0)
	return s.String()
}
