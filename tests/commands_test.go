package tests

import (
	"fmt"
	"math"
	"slices"
	"strings"
	"testing"

	"loop.example/g00380/impl"
)

// asked is a read as readOf has it, or *, of all documents, perhaps with a collection's name behind.
func asked(word string) impl.Read {
	if name, all := strings.CutPrefix(word, "*"); all {
		if name == "" {
			name = "docs"
		}
		return impl.Read{Coll: name, Filter: everything()}
	}
	return readOf(word)
}

// command is written as a session and a word, then a thing (as writeOf has it), a read (as asked has
// it), or an index, as docs.one, and its paths. inc is an update of k by 1.
func command(text string) impl.Command {
	words := strings.Fields(text)
	c := impl.Command{Session: number(words[0])}
	switch words[1] {
	case "begin", "commit", "abort":
		c.Kind = map[string]int{"begin": impl.CoBegin, "commit": impl.CoCommit, "abort": impl.CoAbort}[words[1]]
	case "insert":
		w := writeOf(words[2])
		c.Kind, c.Coll, c.Doc = impl.CoInsert, w.Coll, w.Doc
	case "find", "count", "inc", "delete":
		r := asked(words[2])
		c.Kind = map[string]int{"find": impl.CoFind, "count": impl.CoCount, "inc": impl.CoUpdate, "delete": impl.CoDelete}[words[1]]
		c.Coll, c.Query.Filter = r.Coll, r.Filter
		if c.Kind == impl.CoUpdate {
			c.Updates = slices.Clone(incK)
		}
	case "index", "drop":
		name, index, _ := strings.Cut(words[2], ".")
		c.Kind, c.Coll, c.Def = map[string]int{"index": impl.CoIndex, "drop": impl.CoDrop}[words[1]], name, def(index, words[3:]...)
	default:
		panic(text)
	}
	return c
}

// reply is written as a code's word; of ok then N, and things.
func reply(text string) impl.Reply {
	word, rest, _ := strings.Cut(text, " ")
	r := impl.Reply{Code: impl.CodeOf(word)}
	if rest != "" {
		n, docs, _ := strings.Cut(rest, " ")
		r.N, r.Docs = number(n), things(docs)
	}
	return r
}

// doIs does one command, and holds it to its reply.
func doIs(t *testing.T, s impl.Store, c impl.Command, what string, want impl.Reply) impl.Store {
	t.Helper()
	x, r, code := impl.Do(s, c)
	if !sameReply(r, want) || code != impl.OK {
		t.Errorf("%s: %s, %d, not %s, of %s", what, shownReply(r), code, shownReply(want), shownStore(s))
	}
	if !impl.StoreOK(x) {
		t.Errorf("%s: %s is not right", what, shownStore(x))
	}
	return x
}

// talk has lines of a command and its reply, with : between, and answers what the store is behind them.
// It is of stores that are cleaned up: there a command that is refused leaves all as it was, but that a
// transaction goes, or has a read more.
func talk(t *testing.T, s impl.Store, lines ...string) impl.Store {
	t.Helper()
	for _, line := range lines {
		text, want, _ := strings.Cut(line, ": ")
		c, r := command(text), reply(want)
		x := doIs(t, s, c, line, r)
		isOpen := slices.ContainsFunc(s.Txns, func(x impl.Txn) bool { return x.Session == c.Session })
		if r.Code != impl.OK && !isOpen && !sameStore(x, s) {
			t.Errorf("%s: %s, not as it was, %s", line, shownStore(x), shownStore(s))
		}
		s = x
	}
	return s
}

// nowIs holds DocsNow of a collection to things.
func nowIs(t *testing.T, s impl.Store, name, want string) {
	t.Helper()
	docs, code := impl.DocsNow(s, name)
	if got := seen(t, docs); got != want || code != impl.OK {
		t.Errorf("DocsNow of %s: %q, %d, not %q", name, got, code, want)
	}
}

// storeIs holds a store to another one, all of it.
func storeIs(t *testing.T, what string, s, want impl.Store) {
	t.Helper()
	if !sameStore(s, want) {
		t.Errorf("%s: %s, not %s", what, shownStore(s), shownStore(want))
	}
}

// fresh is a new store of docs and more.
func fresh() impl.Store { return storeOf(0, coll(""), named("more", "")) }

func wrongCommand(t *testing.T, what string, c impl.Command) {
	t.Helper()
	if impl.CommandOK(c) {
		t.Errorf("CommandOK, %s: it is right", what)
	}
	for _, s := range []impl.Store{fresh(), withTxns(storeOf(5, coll("1 2=1")), "1 3"), storeOf(impl.MaxClock, coll("")), {}} {
		if x, r, code := impl.Do(s, c); !isZeroStore(x) || !isZeroReply(r) || code != impl.ErrBad {
			t.Errorf("Do, %s: %s, %s, %d", what, shownStore(x), shownReply(r), code)
		}
	}
	noReplayOf(t, what, twoNames, pastsWith(c), []int{0}, impl.ErrBad)
	notDone(t, what, impl.NewWorld(), c, impl.ErrBad)
	noRunOf(t, what, []impl.Command{c}, impl.ErrBad)
	wrongWorld(t, what, worldOf(fresh(), pastsWith(c)...))
}

func rightCommand(t *testing.T, what string, c impl.Command) {
	t.Helper()
	if !impl.CommandOK(c) {
		t.Errorf("CommandOK, %s: it is not right", what)
	}
	for _, s := range []impl.Store{fresh(), withTxns(storeOf(5, coll("1 2=1")), "1 3"), storeOf(impl.MaxClock, coll(""))} {
		if x, _, code := impl.Do(s, c); !impl.StoreOK(x) || code != impl.OK {
			t.Errorf("Do, %s: %s, %d", what, shownStore(x), code)
		}
	}
	if c.Kind < impl.CoInsert || c.Kind > impl.CoCount {
		noReplayOf(t, what, twoNames, pastsWith(c), []int{0}, impl.ErrBad)
	} else if x, _, code := impl.Replay(twoNames, pastsWith(c), []int{0}); !impl.StoreOK(x) || x.Clock != 1 || code != impl.OK {
		t.Errorf("Replay, %s: %s, %d", what, shownStore(x), code)
	}
	worldDoes(t, what, impl.NewWorld(), c)
	runIsBy(t, what, []impl.Command{c}, 1)
}

func TestP12CommandKinds(t *testing.T) {
	for i, c := range oneOfEach() {
		if c.Kind != i+1 {
			t.Errorf("the Kind %d at %d", c.Kind, i)
		}
		rightCommand(t, fmt.Sprint("the Kind ", c.Kind), c)
		for _, kind := range []int{0, -1, -4, 11, 12, 1 << 32, 1<<32 + 1, math.MinInt, math.MaxInt} {
			wrong := c
			wrong.Kind = kind
			wrongCommand(t, fmt.Sprint("the Kind ", kind), wrong)
		}
	}
	// One that has a right one of everything is right as any Kind but these.
	whole := wholeCommand()
	for kind := -2; kind < 14; kind++ {
		whole.Kind = kind
		if kind >= 1 && kind <= 10 {
			rightCommand(t, fmt.Sprint("the Kind ", kind), whole)
		} else {
			wrongCommand(t, fmt.Sprint("the Kind ", kind), whole)
		}
	}
	wrongCommand(t, "a zero one", impl.Command{})
}

// wholeCommand has what any Kind has a use for.
func wholeCommand() impl.Command {
	return impl.Command{Session: 1, Coll: "docs", Doc: thing(3, 4), Query: impl.Query{Filter: everything(), Limit: 2}, Updates: slices.Clone(incK), Def: def("one", "k")}
}

func TestP12CommandSessions(t *testing.T) {
	for _, c := range oneOfEach() {
		for session := range 4 {
			c.Session = session
			rightCommand(t, fmt.Sprint("the Session ", session, " of ", c.Kind), c)
		}
		for _, session := range []int{-1, -2, 4, 5, 1 << 32, 1<<32 + 1, math.MinInt, math.MaxInt} {
			c.Session = session
			wrongCommand(t, fmt.Sprint("the Session ", session, " of ", c.Kind), c)
		}
	}
}

func TestP12CommandCollections(t *testing.T) {
	for _, c := range oneOfEach() {
		for _, name := range rightNames() {
			c.Coll = name
			rightCommand(t, fmt.Sprint(name, " of ", c.Kind), c)
		}
		for _, name := range append(wrongNames(), strings.Repeat("n", impl.MaxText+1)) {
			c.Coll = name
			if c.Kind <= impl.CoAbort {
				rightCommand(t, fmt.Sprintf("%.20q of %d", name, c.Kind), c)
			} else {
				wrongCommand(t, fmt.Sprintf("%.20q of %d", name, c.Kind), c)
			}
		}
	}
}

// Each fault is one of the Kinds that have a use for what is wrong, and of no others.
func TestP12WhatACommandHasAUseFor(t *testing.T) {
	wrong := where(term(impl.TeEq, "a", boolOf(2)))
	queries, filters := []int{impl.CoFind, impl.CoCount}, []int{impl.CoFind, impl.CoUpdate, impl.CoDelete, impl.CoCount}
	for _, f := range []struct {
		what  string
		kinds []int
		spoil func(c *impl.Command)
	}{
		{"no document", []int{impl.CoInsert}, func(c *impl.Command) { c.Doc = impl.Value{} }},
		{"a number for a document", []int{impl.CoInsert}, func(c *impl.Command) { c.Doc = intOf(3) }},
		{"a list for a document", []int{impl.CoInsert}, func(c *impl.Command) { c.Doc = many(num(3)).value() }},
		{"a wrong body", []int{impl.CoInsert}, func(c *impl.Command) { c.Doc = raw(impl.VaDoc, "\x00") }},
		{"a document with an N", []int{impl.CoInsert}, func(c *impl.Command) { c.Doc.N = 1 }},
		{"no filter", filters, func(c *impl.Command) { c.Query.Filter = impl.Filter{} }},
		{"a wrong filter", filters, func(c *impl.Command) { c.Query.Filter = wrong }},
		{"four clauses", filters, func(c *impl.Command) { c.Query.Filter = filter(clause(), clause(), clause(), clause()) }},
		{"a Skip of -1", queries, func(c *impl.Command) { c.Query.Skip = -1 }},
		{"a Skip of 101", queries, func(c *impl.Command) { c.Query.Skip = 101 }},
		{"a Limit of -1", queries, func(c *impl.Command) { c.Query.Limit = -1 }},
		{"a Limit of 101", queries, func(c *impl.Command) { c.Query.Limit = 101 }},
		{"three paths", queries, func(c *impl.Command) { c.Query.Sort = parts("a", "b", "c") }},
		{"a path that is none", queries, func(c *impl.Command) { c.Query.Sort = parts("9") }},
		{"five names", queries, func(c *impl.Command) { c.Query.Keep = shortNames(5) }},
		{"a name that is none", queries, func(c *impl.Command) { c.Query.Keep = []string{"9"} }},
		{"a wrong hint", queries, func(c *impl.Command) { c.Query.Hint = "thirteenchars" }},
		{"no updates", []int{impl.CoUpdate}, func(c *impl.Command) { c.Updates = nil }},
		{"an empty list of updates", []int{impl.CoUpdate}, func(c *impl.Command) { c.Updates = []impl.Update{} }},
		{"five updates", []int{impl.CoUpdate}, func(c *impl.Command) { c.Updates = slices.Repeat(incK, 5) }},
		{"MaxList updates", []int{impl.CoUpdate}, func(c *impl.Command) { c.Updates = slices.Repeat(incK, impl.MaxList) }},
		{"beyond MaxList updates", []int{impl.CoUpdate}, func(c *impl.Command) { c.Updates = slices.Repeat(incK, impl.MaxList+1) }},
		{"a zero update", []int{impl.CoUpdate}, func(c *impl.Command) { c.Updates = make([]impl.Update, 1) }},
		{"an update of the id", []int{impl.CoUpdate}, func(c *impl.Command) { c.Updates = []impl.Update{update(impl.UpInc, "id", intOf(1))} }},
		{"a wrong update behind", []int{impl.CoUpdate}, func(c *impl.Command) { c.Updates = append(c.Updates, update(9, "k", intOf(1))) }},
		{"no definition", []int{impl.CoIndex, impl.CoDrop}, func(c *impl.Command) { c.Def = impl.Def{} }},
		{"no path", []int{impl.CoIndex}, func(c *impl.Command) { c.Def.Parts = nil }},
		{"a path twice", []int{impl.CoIndex}, func(c *impl.Command) { c.Def.Parts = parts("a", "-a") }},
		{"three paths of a definition", []int{impl.CoIndex}, func(c *impl.Command) { c.Def.Parts = parts("a", "b", "c") }},
		{"a wrong path of a definition", []int{impl.CoIndex}, func(c *impl.Command) { c.Def.Parts = parts("a", "9") }},
		{"a definition without a name", []int{impl.CoIndex, impl.CoDrop}, func(c *impl.Command) { c.Def.Name = "" }},
		{"a definition of a long name", []int{impl.CoIndex, impl.CoDrop}, func(c *impl.Command) { c.Def.Name = "thirteenchars" }},
		{"a definition of a name with a point", []int{impl.CoIndex, impl.CoDrop}, func(c *impl.Command) { c.Def.Name = "a.b" }},
		{"a definition of a name beyond MaxText", []int{impl.CoIndex, impl.CoDrop}, func(c *impl.Command) { c.Def.Name = strings.Repeat("n", impl.MaxText+1) }},
	} {
		for kind := 1; kind <= 10; kind++ {
			c := wholeCommand()
			c.Kind = kind
			f.spoil(&c)
			what := fmt.Sprint(f.what, " of ", kind)
			if slices.Contains(f.kinds, kind) {
				wrongCommand(t, what, c)
			} else {
				rightCommand(t, what, c)
			}
		}
	}
}

// What a command has no use for is anything at all, and changes nothing.
func TestP12WhatACommandHasNoUseFor(t *testing.T) {
	junk := impl.Command{
		Coll: strings.Repeat(" ", impl.MaxText+1), Doc: impl.Value{Kind: 9, N: -1, T: "x"}, Updates: make([]impl.Update, impl.MaxList+1),
		Query: impl.Query{Filter: impl.Filter{Any: make([]impl.Clause, impl.MaxList+1)}, Sort: parts("9"), Skip: -1, Limit: math.MaxInt, Keep: []string{""}, Hint: "9"},
		Def:   impl.Def{Name: "9", Parts: parts("a", "a", "9", "")},
	}
	s := talk(t, fresh(), "0 insert 1=1: ok 1", "0 insert 3=3: ok 1", "0 index docs.new k: ok 0")
	for _, s := range []impl.Store{s, talk(t, s, "0 drop docs.new: ok 0"), talk(t, s, "1 begin: ok 0", "1 insert 5=5: ok 1"), talk(t, s, "2 begin: ok 0")} {
		for _, c := range oneOfEach() {
			d := junk
			d.Kind, d.Session = c.Kind, c.Session
			if c.Kind > impl.CoAbort {
				d.Coll = c.Coll
			}
			switch c.Kind {
			case impl.CoInsert:
				d.Doc = c.Doc
			case impl.CoFind, impl.CoCount:
				d.Query = c.Query
			case impl.CoUpdate:
				d.Query.Filter, d.Updates = c.Query.Filter, c.Updates
			case impl.CoDelete:
				d.Query.Filter = c.Query.Filter
			case impl.CoIndex:
				d.Def = c.Def
			case impl.CoDrop:
				d.Def.Name = c.Def.Name
			}
			want, r, _ := impl.Do(s, c)
			what := fmt.Sprint("the Kind ", c.Kind, " with junk")
			rightCommand(t, what, d)
			storeIs(t, what, doIs(t, s, d, what, r), want)
		}
	}
}

func TestP12UpdatesOfACommand(t *testing.T) {
	c := command("1 inc *")
	for n := 1; n <= 4; n++ {
		c.Updates = slices.Repeat(incK, n)
		rightCommand(t, fmt.Sprint(n, " updates"), c)
		s := talk(t, fresh(), "0 insert 1=1: ok 1")
		nowIs(t, doIs(t, s, c, "updates", impl.Reply{N: 1}), "docs", fmt.Sprint("1=", 1+n))
	}
	for place := range 4 {
		c.Updates = slices.Repeat(incK, 4)
		c.Updates[place].Path = "id"
		wrongCommand(t, fmt.Sprint("a wrong one at ", place), c)
	}
}

// A document that may not be inserted is a right one of a command all the same.
func TestP12DocumentsOfACommand(t *testing.T) {
	for _, doc := range []node{record(), record("k", num(1)), record("id", num(20)), record("id", word("1")), record("id", num(-1)), record("id", num(99)), record("id", num(19)), record("id", num(0))} {
		rightCommand(t, doc.String(), impl.Command{Kind: impl.CoInsert, Coll: "docs", Doc: doc.value()})
	}
	for what, doc := range noDocuments() {
		wrongCommand(t, what, impl.Command{Kind: impl.CoInsert, Coll: "docs", Doc: doc})
	}
}

// A right command of a wrong store, a wrong one of a right store, and both wrong: always ErrBad alone.
func TestP12WrongStoreAndWrongCommand(t *testing.T) {
	for _, c := range append(oneOfEach(), impl.Command{}, impl.Command{Kind: 11}, impl.Command{Kind: impl.CoBegin, Session: 4}) {
		for _, s := range []impl.Store{{}, storeOf(-1, coll("")), storeOf(1, coll("1 2=1")), withTxns(storeOf(5, coll("")), "0 6")} {
			if x, r, code := impl.Do(s, c); !isZeroStore(x) || !isZeroReply(r) || code != impl.ErrBad {
				t.Errorf("Do of %d: %s, %s, %d", c.Kind, shownStore(x), shownReply(r), code)
			}
		}
	}
}
