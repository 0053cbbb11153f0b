package tests

import (
	"fmt"
	"math"
	"slices"
	"strconv"
	"strings"
	"testing"

	"loop.example/g00380/impl"
)

// thing is a document of an id, and of a number that tells it from others of that id.
func thing(id, k int) impl.Value { return record("id", num(id), "k", num(k)).value() }

// version is written as a time, then = and the number of the thing there, or - for one that is Gone.
func version(id int, word string) impl.Version {
	if at, gone := strings.CutSuffix(word, "-"); gone {
		return impl.Version{At: number(at), Gone: true}
	}
	at, k, _ := strings.Cut(word, "=")
	return impl.Version{At: number(at), Doc: thing(id, number(k))}
}

func number(word string) int {
	n, err := strconv.Atoi(word)
	if err != nil {
		panic(err)
	}
	return n
}

// chain is written as its Id, then its versions.
func chain(text string) impl.Chain {
	words := strings.Fields(text)
	c := impl.Chain{Id: number(words[0])}
	for _, w := range words[1:] {
		c.Versions = append(c.Versions, version(c.Id, w))
	}
	return c
}

// coll is the collection docs of chains, with | between.
func coll(text string, defs ...impl.Def) impl.Coll {
	c := impl.Coll{Name: "docs", Defs: defs}
	for part := range strings.SplitSeq(text, "|") {
		if strings.TrimSpace(part) != "" {
			c.Chains = append(c.Chains, chain(part))
		}
	}
	return c
}

func sameChain(a, b impl.Chain) bool { return a.Id == b.Id && slices.Equal(a.Versions, b.Versions) }

func sameColl(a, b impl.Coll) bool {
	return a.Name == b.Name && slices.EqualFunc(a.Chains, b.Chains, sameChain) && slices.EqualFunc(a.Defs, b.Defs, sameDef)
}

func isZeroColl(c impl.Coll) bool { return sameColl(c, impl.Coll{}) }

func shownColl(c impl.Coll) string {
	var list []string
	for _, x := range c.Chains {
		s := fmt.Sprint(x.Id)
		for _, v := range x.Versions {
			s += " " + shownVersion(x.Id, v)
		}
		list = append(list, s)
	}
	return fmt.Sprintf("%.20q %.400s %.200s", c.Name, strings.Join(list, "|"), fmt.Sprint(c.Defs))
}

// shownVersion is written as version reads it, if it is one of a thing.
func shownVersion(id int, v impl.Version) string {
	if v == (impl.Version{At: v.At, Gone: true}) {
		return fmt.Sprintf("%d-", v.At)
	}
	k, code := impl.FirstPath(v.Doc, "k")
	if code == impl.OK && v.Doc == thing(id, k.N) {
		return fmt.Sprintf("%d=%d", v.At, k.N)
	}
	return fmt.Sprintf("%d%q%v", v.At, fmt.Sprint(v.Doc), v.Gone)
}

// put and gone are Writes into docs.
func put(id, k int) impl.Write { return impl.Write{Coll: "docs", Id: id, Doc: thing(id, k)} }

func gone(id int) impl.Write { return impl.Write{Coll: "docs", Id: id, Gone: true} }

// manyTimes are times within their bounds, at them and beyond.
var manyTimes = []int{math.MinInt, -1, 0, 1, 2, 5, 9999, 10000, 10001, math.MaxInt}

// wrongColl holds all calls to it that a collection isn't right, whatever else they are given.
func wrongColl(t *testing.T, what string, c impl.Coll) {
	t.Helper()
	if impl.CollOK(c) {
		t.Errorf("CollOK, %s: it is right", what)
	}
	if n, code := impl.VersionsOf(c); n != 0 || code != impl.ErrBad {
		t.Errorf("VersionsOf, %s: %d, %d", what, n, code)
	}
	for _, n := range manyTimes {
		if docs, code := impl.SeenAt(c, n); len(docs) != 0 || code != impl.ErrBad {
			t.Errorf("SeenAt %d, %s: %v, %d", n, what, docs, code)
		}
		if v, code := impl.LastAt(c, n); v != (impl.Version{}) || code != impl.ErrBad {
			t.Errorf("LastAt %d, %s: %v, %d", n, what, v, code)
		}
		if d, code := impl.Vacuum(c, n); !isZeroColl(d) || code != impl.ErrBad {
			t.Errorf("Vacuum %d, %s: %s, %d", n, what, shownColl(d), code)
		}
		for _, w := range []impl.Write{put(1, 1), gone(3), {Coll: c.Name, Id: 1, Gone: true}, {}} {
			if d, code := impl.Install(c, n, w); !isZeroColl(d) || code != impl.ErrBad {
				t.Errorf("Install at %d, %s: %s, %d", n, what, shownColl(d), code)
			}
		}
	}
}

// rightColl holds all calls to it that a collection is right.
func rightColl(t *testing.T, what string, c impl.Coll) {
	t.Helper()
	if !impl.CollOK(c) {
		t.Errorf("CollOK, %s: it is not right", what)
	}
	n, docs := 0, []impl.Value{}
	for _, x := range c.Chains {
		n += len(x.Versions)
		newest := x.Versions[len(x.Versions)-1]
		if !newest.Gone {
			docs = append(docs, newest.Doc)
		}
		if v, code := impl.LastAt(c, x.Id); v != newest || code != impl.OK {
			t.Errorf("LastAt %d, %s: %v, %d", x.Id, what, v, code)
		}
		if d, code := impl.Install(c, newest.At, impl.Write{Coll: c.Name, Id: x.Id, Gone: true}); !sameColl(d, c) || code != impl.ErrOrder {
			t.Errorf("Install of %d, %s: %s, %d", x.Id, what, shownColl(d), code)
		}
	}
	if m, code := impl.VersionsOf(c); m != n || code != impl.OK {
		t.Errorf("VersionsOf, %s: %d, %d, not %d", what, m, code, n)
	}
	if list, code := impl.SeenAt(c, impl.MaxClock); !slices.Equal(list, docs) || code != impl.OK {
		t.Errorf("SeenAt, %s: %v, %d", what, list, code)
	}
	if d, code := impl.Vacuum(c, 0); !sameColl(d, c) || code != impl.OK {
		t.Errorf("Vacuum, %s: %s, %d", what, shownColl(d), code)
	}
}

func rightNames() []string {
	return []string{"a", "_", "Z", "id", "docs", "a9", "_9", "by_name", strings.Repeat("n", 11), strings.Repeat("n", 12)}
}

// wrongNames are no short names; some are names.
func wrongNames() []string {
	return []string{
		"", "9", "9a", "a.b", "a b", " ", " a", "a ", "a-b", "-a", "a\x00", "\x00", "\xc3\xa9", "a\n",
		strings.Repeat("n", 13), strings.Repeat("n", impl.MaxName), strings.Repeat("n", impl.MaxName+1), strings.Repeat("n", impl.MaxText),
	}
}

func TestP9NewColl(t *testing.T) {
	for _, name := range rightNames() {
		c, code := impl.NewColl(name)
		if !sameColl(c, impl.Coll{Name: name}) || code != impl.OK {
			t.Errorf("NewColl(%q) = %s, %d", name, shownColl(c), code)
		}
		rightColl(t, name, c)
	}
	for _, name := range wrongNames() {
		if c, code := impl.NewColl(name); !isZeroColl(c) || code != impl.ErrName {
			t.Errorf("NewColl(%.20q) = %s, %d", name, shownColl(c), code)
		}
	}
	for _, name := range []string{strings.Repeat("n", impl.MaxText+1), strings.Repeat(" ", 2*impl.MaxText)} {
		if c, code := impl.NewColl(name); !isZeroColl(c) || code != impl.ErrLong {
			t.Errorf("NewColl of %d bytes: %s, %d", len(name), shownColl(c), code)
		}
	}
}

func TestP9CollNames(t *testing.T) {
	chains := coll("1 2=1 4-|5 3=2").Chains
	for _, name := range rightNames() {
		rightColl(t, name, impl.Coll{Name: name})
		rightColl(t, name, impl.Coll{Name: name, Chains: chains, Defs: []impl.Def{def(name, "a")}})
	}
	// Within a struct a text has no bound but its chapter's.
	for _, name := range append(wrongNames(), strings.Repeat("n", impl.MaxText+1)) {
		wrongColl(t, fmt.Sprintf("the name %.20q", name), impl.Coll{Name: name})
		wrongColl(t, fmt.Sprintf("the name %.20q", name), impl.Coll{Name: name, Chains: chains, Defs: []impl.Def{def("one", "a")}})
	}
}

func TestP9CollDefs(t *testing.T) {
	one, two, three := def("one", "a"), def("two", "-b", "a"), def("three", "a.b.c")
	for _, text := range []string{"", "1 2=1 4-|5 3=2"} {
		for what, defs := range map[string][]impl.Def{
			"none": nil, "an empty list": {}, "one": {one}, "two": {one, two}, "MaxIndexes": {one, two, three}, "falling names": {two, three, one},
			"alike but for their names": {one, def("One", "a"), def("on", "a")},
		} {
			rightColl(t, what, coll(text, defs...))
		}
		for what, defs := range map[string][]impl.Def{
			"one more than MaxIndexes":    {one, two, three, def("four", "d")},
			"two of one name":             {one, one},
			"two of one name, other ways": {one, def("one", "-b")},
			"one name, apart":             {one, two, def("one", "b")},
			"one name, behind":            {one, two, def("two", "b")},
			"three of one name":           {one, one, one},
			"a zero one":                  {{}},
			"a zero one behind":           {one, two, {}},
			"a zero one ahead":            {{}, one},
			"no name":                     {def("", "a")},
			"a name of 13 bytes":          {one, def(strings.Repeat("n", 13), "a")},
			"no path":                     {one, def("two")},
			"a wrong path":                {one, def("two", "9")},
			"three paths":                 {def("two", "a", "b", "c")},
			"a path twice":                {def("two", "a", "-a")},
			"MaxList":                     slices.Repeat([]impl.Def{one}, impl.MaxList),
			"beyond MaxList":              slices.Repeat([]impl.Def{one}, impl.MaxList+1),
		} {
			wrongColl(t, what, coll(text, defs...))
		}
	}
}

// allChains are one of each id, of so many versions each.
func allChains(versions int) impl.Coll {
	c := impl.Coll{Name: "docs"}
	for id := range impl.TopId + 1 {
		x := impl.Chain{Id: id}
		for at := range versions {
			x.Versions = append(x.Versions, impl.Version{At: 3*at + id + 1, Doc: thing(id, at)})
		}
		c.Chains = append(c.Chains, x)
	}
	return c
}

func TestP9CollIds(t *testing.T) {
	for _, text := range []string{"0 1=1", "1 1=1", "18 1=1", "19 1=1", "0 1-|19 1-", "0 1=1|1 1=1", "3 9=1|4 2=1|7 9-", "18 1=1|19 1=1"} {
		rightColl(t, text, coll(text))
	}
	rightColl(t, "all ids", allChains(1))
	rightColl(t, "all that there may be", allChains(impl.MaxVersions))
	for _, text := range []string{
		"-1 1-", "20 1-", "-1 1-|0 1-", "19 1-|20 1-", "99 1-", "100 1-", fmt.Sprint(math.MinInt, " 1-"), fmt.Sprint(math.MaxInt, " 1-"), fmt.Sprint(1<<32, " 1-"), "20 1=1", "-1 1=1", "99 1=1",
		"2 1=1|1 1=1", "1 1=1|3 1=1|2 1=1", "3 1=1|1 1=1|2 1=1", "3 1-|2 1-|1 1-", "19 1-|0 1-",
		"1 1=1|1 1=1", "1 1=1|1 2=1", "0 1-|0 2-", "19 1-|19 2-", "1 1-|2 1-|2 1-", "1 1-|1 1-|2 1-", "1 1-|2 1-|1 2-",
	} {
		wrongColl(t, text, coll(text))
	}
	more := allChains(1)
	more.Chains = append(more.Chains, chain("20 1-"))
	wrongColl(t, "one more than all ids", more)
	more.Chains[20].Id = 19
	wrongColl(t, "all ids, the last one twice", more)
	for _, n := range []int{impl.MaxList, impl.MaxList + 1} {
		wrongColl(t, fmt.Sprint(n, " chains"), impl.Coll{Name: "docs", Chains: make([]impl.Chain, n)})
	}
}

// The chain that is looked at stands alone, first, between others, and last.
func amongOthers(x impl.Chain) []impl.Coll {
	one, nine := chain("1 2=1 4-"), chain("9 3=2")
	var list []impl.Coll
	for _, chains := range [][]impl.Chain{{x}, {x, nine}, {one, x, nine}, {one, x}} {
		list = append(list, impl.Coll{Name: "docs", Chains: chains})
	}
	return list
}

func rightChain(t *testing.T, what string, x impl.Chain) {
	t.Helper()
	for _, c := range amongOthers(x) {
		rightColl(t, what, c)
	}
}

func wrongChain(t *testing.T, what string, x impl.Chain) {
	t.Helper()
	for _, c := range amongOthers(x) {
		wrongColl(t, what, c)
	}
}

func TestP9CollVersions(t *testing.T) {
	for n := range impl.MaxVersions + 2 {
		x := impl.Chain{Id: 5}
		for at := range n {
			x.Versions = append(x.Versions, impl.Version{At: at + 1, Doc: thing(5, at)})
		}
		if n == 0 || n > impl.MaxVersions {
			wrongChain(t, fmt.Sprint(n, " versions"), x)
		} else {
			rightChain(t, fmt.Sprint(n, " versions"), x)
		}
	}
	wrongChain(t, "an empty list of versions", impl.Chain{Id: 5, Versions: []impl.Version{}})
	for _, n := range []int{impl.MaxList, impl.MaxList + 1} {
		x := impl.Chain{Id: 5}
		for at := range n {
			x.Versions = append(x.Versions, impl.Version{At: at + 1, Gone: true})
		}
		wrongChain(t, fmt.Sprint(n, " versions"), x)
	}
}

func TestP9CollTimes(t *testing.T) {
	for _, text := range []string{"5 1=1", "5 1-", "5 2=1", "5 10000=1", "5 10000-", "5 9999=1", "5 1=1 10000=2", "5 1=1 2=2 3=3", "5 1- 2- 3-", "5 1=1 2- 3=1 4-", "5 9=1 9999=1 10000=1", "5 1=7 2=7 3=7"} {
		rightChain(t, text, chain(text))
	}
	for _, text := range []string{
		"5 0=1", "5 0-", "5 10001=1", "5 10001-", "5 -1=1", "5 0=1 1=2", "5 -3- 4=1", "5 1=1 10001=2", "5 0- 1- 2-", "5 9999- 10000- 10001-",
		"5 1=1 1=2", "5 1- 1-", "5 1=1 2=2 2=3", "5 1=1 1=2 2=3", "5 10000=1 10000=1", "5 1=1 2=2 1=3",
		"5 2=1 1=2", "5 1=1 3=2 2=3", "5 3=1 1=2 2=3", "5 3- 2- 1-", "5 10000=1 1=2",
		fmt.Sprintf("5 %d-", math.MinInt), fmt.Sprintf("5 %d-", math.MaxInt), fmt.Sprintf("5 1- %d-", math.MinInt), fmt.Sprintf("5 1- %d-", math.MaxInt), fmt.Sprintf("5 %d-", 1<<32+5),
	} {
		wrongChain(t, text, chain(text))
	}
}

// wrongDocuments are what no version of the id 5 has, unless it is Gone and this is zero.
func wrongDocuments() map[string]impl.Value {
	list := noDocuments()
	for what, x := range map[string]node{
		"no field": record(), "no id": record("k", num(5)), "another id": record("id", num(4)), "one more": record("id", num(6)), "an id of TopId": record("id", num(19)), "an id of 99": record("id", num(99)),
		"an id of 100": record("id", num(100)), "an id of -5": record("id", num(-5)), "a null for an id": record("id", node{}), "a text for an id": record("id", word("5")), "a list for an id": record("id", many(num(5))),
		"a document for an id": record("id", record("id", num(5))), "another name": record("Id", num(5)), "an id further in": record("a", record("id", num(5))),
	} {
		list[what] = x.value()
	}
	return list
}

// withDocument has the version of a document or without one first, between others, last, and alone.
func withDocument(v impl.Version) []impl.Chain {
	v.At = 4
	ahead, behind := impl.Version{At: 3, Doc: thing(5, 1)}, impl.Version{At: 5, Gone: true}
	var list []impl.Chain
	for _, versions := range [][]impl.Version{{v}, {v, behind}, {ahead, v, behind}, {ahead, v}} {
		list = append(list, impl.Chain{Id: 5, Versions: versions})
	}
	return list
}

func TestP9CollDocuments(t *testing.T) {
	for _, doc := range []node{record("id", num(5)), record("a", num(1), "id", num(5), "x", many(record("id", num(3)))), record("a", record("id", num(4)), "id", num(5))} {
		for _, x := range withDocument(impl.Version{Doc: doc.value()}) {
			rightChain(t, doc.String(), x)
		}
		for _, x := range withDocument(impl.Version{Gone: true, Doc: doc.value()}) {
			wrongChain(t, "Gone with "+doc.String(), x)
		}
	}
	for _, x := range withDocument(impl.Version{Gone: true}) {
		rightChain(t, "Gone", x)
	}
	for what, doc := range wrongDocuments() {
		for _, x := range withDocument(impl.Version{Doc: doc}) {
			wrongChain(t, what, x)
		}
		if doc != (impl.Value{}) {
			for _, x := range withDocument(impl.Version{Gone: true, Doc: doc}) {
				wrongChain(t, "Gone with "+what, x)
			}
		}
	}
	for _, doc := range []impl.Value{{}, {N: 1}, {T: "x"}, {Kind: -1}} {
		wrongChain(t, "no document", withDocument(impl.Version{Doc: doc})[0])
	}
	for _, doc := range []impl.Value{{N: 1}, {T: "x"}, {Kind: -1}, boolOf(0)} {
		wrongChain(t, "Gone with a value", withDocument(impl.Version{Gone: true, Doc: doc})[0])
	}
}

// A document without an id is not that of the id 0.
func TestP9CollOfTheLeastId(t *testing.T) {
	for what, doc := range wrongDocuments() {
		wrongColl(t, what, impl.Coll{Name: "docs", Chains: []impl.Chain{{Versions: []impl.Version{{At: 1, Doc: doc}}}}})
		wrongWrite(t, what, impl.Write{Coll: "docs", Doc: doc})
	}
	rightColl(t, "the id 0", coll("0 1=1 2- 3=2"))
}
