package tests

import (
	"cmp"
	"fmt"
	"slices"
	"strings"
	"testing"

	"loop.example/g00380/impl"
)

// spareStore is a store, with commands, whose lists have room behind their ends, and all that stands
// there.
type spareStore struct {
	s        impl.Store
	txn      *spareTxn
	txns     []impl.Txn
	names    []string
	commands []impl.Command
	defs     []impl.Def
	parts    []impl.Part
}

// newSpareStore has the session 2 as newSpareTxn has it; 1 is newer, and behind the end stand others.
func newSpareStore() *spareStore {
	x := newSpareTxn()
	s := &spareStore{txn: x, names: []string{strings.Clone("a"), strings.Clone("docs"), strings.Clone("more"), "more", "9"}}
	s.txns = []impl.Txn{{Session: 1, Snap: 7, Reads: x.dones.reads[5:7], Writes: x.writes[1:3]}, x.x, {Session: 2, Snap: 77}, {}}
	s.s = impl.Store{Colls: x.colls[:3], Txns: s.txns[:2], Done: x.dones.list[:3], Clock: 9}
	s.parts = []impl.Part{{Path: strings.Clone("a.b")}, {Path: strings.Clone("k"), Desc: true}, {Path: "9"}}
	s.defs = []impl.Def{{Name: strings.Clone("new"), Parts: s.parts[:2]}, {Name: strings.Clone("one"), Parts: s.parts[:1]}, {Name: "9"}}
	for session := range 4 {
		s.commands = append(s.commands, s.commandsOf(session)...)
	}
	return s
}

func (s *spareStore) commandsOf(session int) []impl.Command {
	var list []impl.Command
	add := func(c impl.Command) {
		c.Session, c.Coll = session, strings.Clone(cmp.Or(c.Coll, "docs"))
		list = append(list, c)
	}
	for kind := impl.CoBegin; kind <= impl.CoAbort; kind++ {
		add(impl.Command{Kind: kind})
	}
	for _, doc := range s.txn.docs[:3] {
		add(impl.Command{Kind: impl.CoInsert, Doc: doc})
	}
	for _, q := range s.txn.queries() {
		add(impl.Command{Kind: impl.CoFind, Query: q})
		add(impl.Command{Kind: impl.CoCount, Query: q})
		add(impl.Command{Kind: impl.CoUpdate, Query: q, Updates: s.txn.updates[:2]})
		add(impl.Command{Kind: impl.CoDelete, Query: q})
	}
	for _, d := range s.defs[:2] {
		add(impl.Command{Kind: impl.CoIndex, Def: d})
		add(impl.Command{Kind: impl.CoIndex, Def: d, Coll: "none"})
		add(impl.Command{Kind: impl.CoDrop, Def: d})
	}
	return append(list, impl.Command{Kind: impl.CoUpdate, Coll: "docs", Query: s.txn.query.q, Updates: s.txn.updates}, impl.Command{Kind: impl.CoIndex, Coll: "docs", Def: s.defs[2]})
}

func sameCommand(a, b impl.Command) bool {
	return a.Kind == b.Kind && a.Session == b.Session && a.Coll == b.Coll && a.Doc == b.Doc && sameQuery(a.Query, b.Query) && slices.Equal(a.Updates, b.Updates) && sameDef(a.Def, b.Def)
}

func (s *spareStore) same(o *spareStore) bool {
	return sameStore(s.s, o.s) && s.txn.same(o.txn) && slices.EqualFunc(s.txns, o.txns, sameTxn) && slices.Equal(s.names, o.names) &&
		slices.EqualFunc(s.commands, o.commands, sameCommand) && slices.EqualFunc(s.defs, o.defs, sameDef) && slices.Equal(s.parts, o.parts)
}

// stores are those that there are commands for: with both transactions, without the older one, and
// without any.
func (s *spareStore) stores() []impl.Store {
	newer, bare := s.s, s.s
	newer.Txns, bare.Txns = s.txns[:1], s.txns[:0]
	return []impl.Store{s.s, newer, bare}
}

// A did is what a command made of a store.
type did struct {
	s    impl.Store
	r    impl.Reply
	code int
}

func didOf(s impl.Store, r impl.Reply, code int) did { return did{s, r, code} }

func (s *spareStore) made() []did {
	var all []did
	for _, x := range s.stores() {
		for _, c := range s.commands {
			all = append(all, didOf(impl.Do(x, c)))
		}
	}
	x, code := impl.NewStore(s.names[:3])
	all = append(all, did{s: x, code: code})
	for _, name := range s.names {
		docs, code := impl.DocsNow(s.s, name)
		all = append(all, did{r: impl.Reply{Docs: docs}, code: code})
	}
	return all
}

func sameDid(a, b did) bool { return sameStore(a.s, b.s) && sameReply(a.r, b.r) && a.code == b.code }

func TestP1StoresStayAsTheyAre(t *testing.T) {
	s, before := newSpareStore(), newSpareStore()
	for _, x := range s.stores() {
		if !impl.StoreOK(x) || !s.same(before) {
			t.Fatalf("the store is not right: %s", shownStore(x))
		}
	}
	codes := map[string]int{}
	for _, d := range s.made() {
		codes[fmt.Sprint(impl.CodeWord(d.r.Code), " ", d.code)]++
	}
	for _, what := range []string{"ok 0", "ok 1", "state 0", "twice 0", "range 0", "name 0", "busy 0", "none 0", "pivot 0", "conflict 0", "ok 11"} {
		if codes[what] == 0 {
			t.Errorf("no %s: %v", what, codes)
		}
	}
	wrong := impl.Store{Colls: s.txn.colls, Txns: s.txns, Done: s.txn.dones.list, Clock: 3}
	for _, c := range s.commands {
		impl.CommandOK(c)
		impl.Do(wrong, c)
	}
	impl.StoreOK(wrong)
	impl.NewStore(s.names)
	impl.NewStore(s.names[1:4])
	impl.OpenSessions(s.s)
	impl.OldestSnap(s.s)
	if !s.same(before) {
		t.Errorf("a call changed its argument: %s", shownStore(s.s))
	}
}

// wipedDid clears all that an answer reaches, list by list: no other list of it may feel it.
func wipedDid(t *testing.T, d did, again did) {
	t.Helper()
	still := func(what string, colls, txns int) {
		t.Helper()
		if !slices.EqualFunc(d.s.Colls[colls:], again.s.Colls[colls:], sameColl) || !slices.EqualFunc(d.s.Txns[txns:], again.s.Txns[txns:], sameTxn) {
			t.Fatalf("%s shares memory with another list", what)
		}
	}
	for i, c := range d.s.Colls {
		wipedColl(t, c)
		still("a collection", i+1, 0)
	}
	clear(d.s.Colls[:cap(d.s.Colls)])
	for i, x := range d.s.Txns {
		wipedAnswer(t, answered{x: x})
		still("a transaction", len(d.s.Colls), i+1)
	}
	clear(d.s.Txns[:cap(d.s.Txns)])
	if !sameDones(d.s.Done, again.s.Done) || !slices.Equal(d.r.Docs, again.r.Docs) {
		t.Fatal("what was committed shares memory with another list")
	}
	wipedDones(t, d.s.Done)
	if !slices.Equal(d.r.Docs, again.r.Docs) {
		t.Fatal("documents share memory with what was committed")
	}
	clear(d.r.Docs[:cap(d.r.Docs)])
}

func TestP1AnswersOfStoresAreNew(t *testing.T) {
	s, before := newSpareStore(), newSpareStore()
	first, second, want := s.made(), s.made(), before.made()
	for i, d := range first {
		if !sameDid(d, second[i]) {
			t.Fatalf("the answer %d: %s, then %s", i, shownStore(d.s), shownStore(second[i].s))
		}
		wipedDid(t, d, second[i])
		if !s.same(before) {
			t.Fatalf("the answer %d shares lists with its argument", i)
		}
	}
	for i, d := range second {
		if !sameDid(d, want[i]) {
			t.Fatalf("the answer %d shares lists with another one", i)
		}
	}
	clear(s.txns)
	clear(s.names)
	clear(s.commands)
	clear(s.defs)
	clear(s.parts)
	clear(s.txn.writes)
	clear(s.txn.updates)
	clear(s.txn.colls)
	clear(s.txn.docs)
	clear(s.txn.dones.list)
	clear(s.txn.dones.reads)
	clear(s.txn.dones.clauses)
	clear(s.txn.dones.terms)
	clear(s.txn.dones.changes)
	clear(s.txn.query.terms)
	clear(s.txn.query.clauses)
	clear(s.txn.coll.versions)
	clear(s.txn.coll.chains)
	clear(s.txn.coll.defs)
	clear(s.txn.coll.parts)
	for i := range want {
		if !sameDid(second[i], want[i]) {
			t.Errorf("the answer %d hangs on what became of its argument: %s, not %s", i, shownStore(second[i].s), shownStore(want[i].s))
		}
	}
}

// Of a list of sessions, too, there is a new one each time.
func TestP1ListsOfSessionsAreNew(t *testing.T) {
	s := newSpareStore().s
	first, _ := impl.OpenSessions(s)
	second, _ := impl.OpenSessions(s)
	clear(first[:cap(first)])
	if again, _ := impl.OpenSessions(s); !slices.Equal(again, []int{1, 2}) || !slices.Equal(second, again) {
		t.Errorf("OpenSessions: %v, then %v", second, again)
	}
}

func textsOfStore(s impl.Store) []string {
	list := textsOfDones(s.Done)
	for _, c := range s.Colls {
		list = append(list, textsIn(c)...)
	}
	for _, x := range s.Txns {
		list = append(list, textsOfAnswer(answered{x: x})...)
	}
	return list
}

func textsOfCommand(c impl.Command) []string {
	list := []string{c.Coll, c.Doc.T, c.Def.Name, c.Query.Hint}
	list = append(list, textsOfDones([]impl.Done{{Reads: []impl.Read{{Filter: c.Query.Filter}}}})...)
	for _, u := range c.Updates {
		list = append(list, u.Path, u.Value.T)
	}
	for _, p := range slices.Concat(c.Query.Sort, c.Def.Parts) {
		list = append(list, p.Path)
	}
	return append(list, c.Query.Keep...)
}

func TestP1StoresShareNoTexts(t *testing.T) {
	s := newSpareStore()
	given := slices.Concat(textsOfStore(s.s), s.names)
	for i, d := range s.made() {
		mine := given
		if i < 3*len(s.commands) {
			mine = slices.Concat(given, textsOfCommand(s.commands[i%len(s.commands)]))
		}
		noOneShares(t, slices.Concat(textsOfStore(d.s), textsOfAnswer(answered{docs: d.r.Docs})), mine)
	}
}

// toldStores writes down all that the calls of chapter 12 answer to a value, and to its text.
func toldStores(v impl.Value) string {
	var s strings.Builder
	tell := func(x impl.Store, r impl.Reply, code int) {
		fmt.Fprintf(&s, "%q %q %d %v\n", fmt.Sprint(x), fmt.Sprint(r), code, impl.StoreOK(x))
	}
	for _, names := range [][]string{{v.T}, {"docs", v.T}, {v.T, "docs"}} {
		x, code := impl.NewStore(names)
		tell(x, impl.Reply{}, code)
	}
	inside := raw(impl.VaDoc, "\x01a"+string(rawBytes(v))+"\x02id"+string(rawBytes(intOf(3))))
	c := impl.Coll{Name: "docs", Chains: []impl.Chain{chain("1 2=1"), {Id: 3, Versions: []impl.Version{{At: 2, Doc: inside}}}}}
	for _, x := range []impl.Store{
		storeOf(5, coll("1 2=1 4=2")), storeOf(5, c), withTxns(storeOf(5, coll("")), "1 3 2=2"), storeOf(v.N, coll("")), storeOf(5, coll(""), named(v.T, "")), {Colls: []impl.Coll{coll("")}, Txns: []impl.Txn{{Session: v.Kind, Snap: v.N}}, Clock: 9},
	} {
		for _, f := range []impl.Filter{where(term(impl.TeEq, "a", v)), where(term(v.Kind, v.T, v))} {
			q := impl.Query{Filter: f, Skip: v.Kind, Hint: v.T}
			for _, d := range []impl.Command{
				{Kind: v.Kind, Session: 1, Coll: "docs"}, {Kind: impl.CoBegin, Session: v.N}, {Kind: impl.CoInsert, Session: 1, Coll: "docs", Doc: inside}, {Kind: impl.CoInsert, Coll: v.T, Doc: v}, {Kind: impl.CoInsert, Coll: "docs", Doc: v},
				{Kind: impl.CoFind, Coll: "docs", Query: q}, {Kind: impl.CoDelete, Session: 1, Coll: "docs", Query: q}, {Kind: impl.CoCount, Coll: v.T, Query: q},
				{Kind: impl.CoUpdate, Coll: "docs", Query: impl.Query{Filter: everything()}, Updates: []impl.Update{update(impl.UpSet, "a", v), update(v.Kind, "b", v)}},
				{Kind: impl.CoUpdate, Session: 1, Coll: "docs", Query: q, Updates: []impl.Update{update(impl.UpPush, v.T, v)}}, {Kind: impl.CoIndex, Coll: "docs", Def: def(v.T, "a")}, {Kind: impl.CoDrop, Coll: "docs", Def: impl.Def{Name: v.T}},
			} {
				fmt.Fprintln(&s, impl.CommandOK(d))
				tell(impl.Do(x, d))
			}
		}
		docs, code := impl.DocsNow(x, v.T)
		list, k := impl.OpenSessions(x)
		n, l := impl.OldestSnap(x)
		fmt.Fprintf(&s, "%q %d %v %d %d %d\n", fmt.Sprint(docs), code, list, k, n, l)
	}
	return s.String()
}
