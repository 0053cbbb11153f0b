package tests

import (
	"fmt"
	"math"
	"slices"
	"strings"
	"testing"

	"loop.example/g00380/impl"
)

// writeOf is written as 3=7, of a thing with its number, or 3-, of one that goes, perhaps with a
// collection's name and a point ahead.
func writeOf(text string) impl.Write {
	w := impl.Write{Coll: "docs"}
	if name, rest, there := strings.Cut(text, "."); there {
		w.Coll, text = name, rest
	}
	if id, there := strings.CutSuffix(text, "-"); there {
		w.Id, w.Gone = number(id), true
		return w
	}
	id, k, _ := strings.Cut(text, "=")
	w.Id, w.Doc = number(id), thing(number(id), number(k))
	return w
}

// txn is written as its Session and its Snap, then reads (as readOf has them) and writes.
func txn(text string) impl.Txn {
	words := strings.Fields(text)
	x := impl.Txn{Session: number(words[0]), Snap: number(words[1])}
	for _, w := range words[2:] {
		if w[0] == '?' || w[0] == '>' {
			x.Reads = append(x.Reads, readOf(w))
		} else {
			x.Writes = append(x.Writes, writeOf(w))
		}
	}
	return x
}

// withReads is x with so many reads.
func withReads(x impl.Txn, n int) impl.Txn {
	x.Reads = slices.Repeat([]impl.Read{readOf("?1")}, n)
	return x
}

// withRead is x with one read more.
func withRead(x impl.Txn, coll string, f impl.Filter) impl.Txn {
	x.Reads = append(slices.Clone(x.Reads), impl.Read{Coll: coll, Filter: f})
	return x
}

// withWrites is x with these writes and no others.
func withWrites(x impl.Txn, list ...impl.Write) impl.Txn {
	x.Writes = list
	return x
}

func sameTxn(a, b impl.Txn) bool {
	return a.Session == b.Session && a.Snap == b.Snap && slices.EqualFunc(a.Reads, b.Reads, sameRead) && slices.Equal(a.Writes, b.Writes)
}

func isZeroTxn(x impl.Txn) bool { return sameTxn(x, impl.Txn{}) }

func sameReply(a, b impl.Reply) bool {
	return a.Code == b.Code && a.N == b.N && slices.Equal(a.Docs, b.Docs)
}

func isZeroReply(r impl.Reply) bool { return sameReply(r, impl.Reply{}) }

func shownTxn(x impl.Txn) string {
	d := impl.Done{Snap: x.Session, At: x.Snap, Reads: x.Reads}
	for _, w := range x.Writes {
		d.Changes = append(d.Changes, impl.Change{Write: w})
	}
	return shownDone(d)
}

func shownReply(r impl.Reply) string {
	return fmt.Sprintf("%s %d %.400q", impl.CodeWord(r.Code), r.N, fmt.Sprint(r.Docs))
}

// A called is what a call in a transaction answered.
type called struct {
	x    impl.Txn
	r    impl.Reply
	code int
}

func callOf(x impl.Txn, r impl.Reply, code int) called { return called{x, r, code} }

// is holds an answer with the code OK to a transaction and a reply.
func (c called) is(t *testing.T, what string, x impl.Txn, r impl.Reply) {
	t.Helper()
	if !sameTxn(c.x, x) || !sameReply(c.r, r) || c.code != impl.OK {
		t.Errorf("%s: %s, %s, %d, not %s, %s", what, shownTxn(c.x), shownReply(c.r), c.code, shownTxn(x), shownReply(r))
	}
	if !impl.TxnOK(c.x) {
		t.Errorf("%s: %s is not right", what, shownTxn(c.x))
	}
}

// fails holds an answer to a code, and to nothing beside it.
func (c called) fails(t *testing.T, what string, code int) {
	t.Helper()
	if !isZeroTxn(c.x) || !isZeroReply(c.r) || c.code != code {
		t.Errorf("%s: %s, %s, %d, not %d", what, shownTxn(c.x), shownReply(c.r), c.code, code)
	}
}

var incK = []impl.Update{update(impl.UpInc, "k", intOf(1))}

// A handed is what may be handed to a call beside a transaction, right or not.
type handed struct {
	c    impl.Coll
	q    impl.Query
	doc  impl.Value
	list []impl.Update
}

func rightHanded() handed {
	return handed{c: coll("1 2=1|5 3=2 6-"), q: impl.Query{Filter: everything()}, doc: thing(7, 1), list: incK}
}

// callsOf are all calls in a transaction, by their names.
func callsOf(x impl.Txn, h handed) map[string]called {
	return map[string]called{
		"TxnFind":   callOf(impl.TxnFind(x, h.c, h.q)),
		"TxnInsert": callOf(impl.TxnInsert(x, h.c, h.doc)),
		"TxnUpdate": callOf(impl.TxnUpdate(x, h.c, h.q.Filter, h.list)),
		"TxnDelete": callOf(impl.TxnDelete(x, h.c, h.q.Filter)),
	}
}

// allFail holds all calls of a transaction to ErrBad: there is something wrong that all are given.
func allFail(t *testing.T, what string, x impl.Txn, h handed) {
	t.Helper()
	for name, c := range callsOf(x, h) {
		c.fails(t, name+", "+what, impl.ErrBad)
	}
	if docs, code := impl.TxnDocs(x, h.c); len(docs) != 0 || code != impl.ErrBad {
		t.Errorf("TxnDocs, %s: %v, %d", what, docs, code)
	}
}

// wrongTxn holds all calls to it that a transaction isn't right, whatever else they are given.
func wrongTxn(t *testing.T, what string, x impl.Txn) {
	t.Helper()
	if impl.TxnOK(x) {
		t.Errorf("TxnOK, %s: it is right", what)
	}
	allFail(t, what, x, rightHanded())
	allFail(t, what, x, handed{doc: impl.Value{Kind: 9}})
	none := rightHanded()
	none.doc = record("k", num(1)).value()
	allFail(t, what, x, none)
	for _, colls := range [][]impl.Coll{nil, {none.c}, {none.c, none.c}} {
		if list, code := impl.ChangesOf(x, colls); len(list) != 0 || code != impl.ErrBad {
			t.Errorf("ChangesOf, %s: %v, %d", what, list, code)
		}
	}
}

// rightTxn holds all calls to it that a transaction is right; it writes nothing of docs.
func rightTxn(t *testing.T, what string, x impl.Txn) {
	t.Helper()
	if !impl.TxnOK(x) {
		t.Errorf("TxnOK, %s: it is not right", what)
	}
	h := rightHanded()
	want, _ := impl.SeenAt(h.c, x.Snap)
	if docs, code := impl.TxnDocs(x, h.c); !slices.Equal(docs, want) || code != impl.OK {
		t.Errorf("TxnDocs, %s: %v, %d", what, docs, code)
	}
	if len(x.Reads) < impl.MaxReads {
		callOf(impl.TxnFind(x, h.c, h.q)).is(t, what, withRead(x, "docs", everything()), impl.Reply{Docs: want, N: len(want)})
	} else {
		callOf(impl.TxnFind(x, h.c, h.q)).is(t, what, x, impl.Reply{Code: impl.ErrFull})
	}
	list, code := impl.ChangesOf(x, nil)
	if len(list) != len(x.Writes) || code != impl.OK {
		t.Errorf("ChangesOf, %s: %v, %d", what, list, code)
	}
}

func TestP11Constants(t *testing.T) {
	if impl.MaxSessions != 4 || impl.MaxReads != 20 || impl.MaxColls != 3 || impl.TopId != 19 {
		t.Errorf("MaxSessions %d, MaxReads %d, MaxColls %d, TopId %d", impl.MaxSessions, impl.MaxReads, impl.MaxColls, impl.TopId)
	}
}

func TestP11Sessions(t *testing.T) {
	for _, text := range []string{"%d 0", "%d 10000 ?1 more.1=2 more.3-"} {
		for session := range 4 {
			rightTxn(t, fmt.Sprint("the Session ", session), txn(fmt.Sprintf(text, session)))
		}
		for _, session := range []int{-1, -4, 4, 5, 1 << 32, 1<<32 + 1, math.MinInt, math.MaxInt} {
			wrongTxn(t, fmt.Sprint("the Session ", session), txn(fmt.Sprintf(text, session)))
		}
	}
	rightTxn(t, "a zero one", impl.Txn{})
}

func TestP11Snaps(t *testing.T) {
	for _, text := range []string{"0 %d", "3 %d ?1 more.1=2 more.3-"} {
		for _, snap := range []int{0, 1, 2, 3, 5, 6, 7, 9999, 10000} {
			rightTxn(t, fmt.Sprint("the Snap ", snap), txn(fmt.Sprintf(text, snap)))
		}
		for _, snap := range []int{-1, -2, 10001, 10002, 1 << 32, 1<<32 + 5, math.MinInt, math.MaxInt} {
			wrongTxn(t, fmt.Sprint("the Snap ", snap), txn(fmt.Sprintf(text, snap)))
		}
	}
}

func TestP11Reads(t *testing.T) {
	for _, n := range []int{0, 1, 2, 19, 20} {
		rightTxn(t, fmt.Sprint(n, " reads"), withReads(txn("1 5"), n))
		rightTxn(t, fmt.Sprint(n, " reads"), withReads(txn("1 5 more.1=2"), n))
	}
	for _, n := range []int{21, 22, 100, impl.MaxList, impl.MaxList + 1} {
		wrongTxn(t, fmt.Sprint(n, " reads"), withReads(txn("1 5"), n))
	}
	rightTxn(t, "an empty list of reads", impl.Txn{Reads: []impl.Read{}, Writes: []impl.Write{}})
	rightTxn(t, "reads of many collections", txn("1 5 ?more.3 >a.1 ?docs.3 >docs.2 ?docs.3"))
	for place := range 20 {
		x := withReads(txn("1 5"), 20)
		x.Reads[place].Coll = "9"
		wrongTxn(t, fmt.Sprint("a wrong read at ", place), x)
	}
}

func TestP11WrongReads(t *testing.T) {
	x, wrong := term(impl.TeEq, "a", intOf(1)), term(impl.TeEq, "a", boolOf(2))
	full := clause(x, x, x, x)
	for what, f := range map[string]impl.Filter{"no terms": everything(), "all that there may be": filter(full, full, full)} {
		rightTxn(t, what, withRead(txn("0 1 ?1"), "docs", f))
	}
	for what, f := range map[string]impl.Filter{
		"no clause": {}, "a clause more": filter(full, full, full, full), "a term more": where(x, x, x, x, x), "a wrong value": where(wrong), "a wrong value behind": filter(full, clause(x, wrong)),
		"no Op": where(term(0, "a", intOf(1))), "an Op more": where(term(11, "a", intOf(1))), "no path": where(term(impl.TeEq, "", intOf(1))),
	} {
		wrongTxn(t, what, withRead(txn("0 1"), "docs", f))
		wrongTxn(t, what, withRead(txn("0 1 ?1 ?2"), "docs", f))
	}
	for _, name := range rightNames() {
		rightTxn(t, name, withRead(txn("0 1"), name, everything()))
	}
	for _, name := range append(wrongNames(), strings.Repeat("n", impl.MaxText+1)) {
		wrongTxn(t, fmt.Sprintf("a read of %.20q", name), withRead(txn("0 1 ?1"), name, everything()))
	}
	wrongTxn(t, "a zero read", impl.Txn{Reads: make([]impl.Read, 1)})
}

func TestP11OrderOfWrites(t *testing.T) {
	for _, text := range []string{
		"a.0=1", "a.0=1 a.1=1", "a.0- a.1=1 a.2-", "a.19=1 b.0=1", "a.0=1 b.0=1 c.0=1 d.0-", "a.3- aa.1=1 ab.1=1 b.2=2", "A.5=1 Z.5=1 _.5=1 a.5=1", "a.5=1 a9.3=1 b.1=1", "a.2=1 a.10=1", "more.0- more.19-",
	} {
		rightTxn(t, text, txn("2 7 "+text))
		rightTxn(t, text, txn("2 7 ?1 >more.2 "+text))
	}
	for _, text := range []string{
		"a.1=1 a.0=1", "a.1=1 a.1=1", "a.1=1 a.1=2", "a.1=1 a.1-", "a.1- a.1-", "b.0=1 a.0=1", "b.0=1 a.1=1", "a.10=1 a.2=1", "a.1=1 b.1=1 a.2=1", "a.1=1 b.1=1 b.1-", "a.1=1 a.1=1 b.1=1", "a.2=1 a.1=1 b.3=1",
		"a.1=1 A.1=1", "aa.1=1 a.2=1", "a.0=1 a.1=1 a.2=1 a.2=1", "docs.1=1 docs.0=1", "docs.1=1 more.1=1 docs.1=1",
	} {
		wrongTxn(t, text, txn("2 7 "+text))
	}
	// No chapter says how many: all that may be in three collections, and in more.
	for _, names := range []int{1, 3, 4, 300} {
		x := impl.Txn{}
		for i := range names {
			for id := range impl.TopId + 1 {
				x.Writes = append(x.Writes, impl.Write{Coll: fmt.Sprintf("n%03d", i), Id: id, Gone: id%3 == 0})
				if last := &x.Writes[len(x.Writes)-1]; !last.Gone {
					last.Doc = thing(id, i)
				}
			}
		}
		rightTxn(t, fmt.Sprint(len(x.Writes), " writes"), x)
		x.Writes = append(x.Writes, x.Writes[len(x.Writes)-1])
		wrongTxn(t, fmt.Sprint(len(x.Writes), " writes, the last one twice"), x)
	}
}

func TestP11WrongWrites(t *testing.T) {
	// Each stands alone, ahead of others, between them and behind them.
	among := func(w impl.Write) []impl.Txn {
		ahead, behind := writeOf("A.1=1"), writeOf("zzz.1-")
		return []impl.Txn{withWrites(txn("0 1"), w), withWrites(txn("0 1"), w, behind), withWrites(txn("0 1"), ahead, w, behind), withWrites(txn("0 1 ?1"), ahead, w)}
	}
	wrong := func(what string, w impl.Write) {
		t.Helper()
		for _, x := range among(w) {
			wrongTxn(t, what, x)
		}
	}
	for _, text := range []string{"more.5=1", "more.5-", "m.0=0", "m.19-"} {
		for _, x := range among(writeOf(text)) {
			rightTxn(t, text, x)
		}
	}
	for _, text := range []string{"more.5=1", "more.5-"} {
		w := writeOf(text)
		for _, name := range append(wrongNames(), strings.Repeat("n", impl.MaxText+1)) {
			w.Coll = name
			wrong(fmt.Sprintf("a write of %.20q", name), w)
		}
		for _, id := range []int{-1, 4, 20, 21, 99, 100, 1 << 32, 1<<32 + 5, math.MinInt, math.MaxInt} {
			w := writeOf(text)
			w.Id = id
			if id != 4 || !w.Gone {
				wrong(fmt.Sprint(text, " with the Id ", id), w)
			}
		}
	}
	for what, doc := range wrongDocuments() {
		wrong(what, impl.Write{Coll: "more", Id: 5, Doc: doc})
		if doc != (impl.Value{}) {
			wrong("Gone with "+what, impl.Write{Coll: "more", Id: 5, Gone: true, Doc: doc})
		}
	}
	wrong("the Id 20 with its document", impl.Write{Coll: "more", Id: 20, Doc: thing(20, 1)})
	wrong("Gone with its document", impl.Write{Coll: "more", Id: 5, Gone: true, Doc: thing(5, 1)})
	wrong("a zero write", impl.Write{})
}
